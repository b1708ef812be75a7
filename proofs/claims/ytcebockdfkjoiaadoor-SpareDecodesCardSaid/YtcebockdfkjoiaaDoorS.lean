/- The plain mathematics of descriptions of flash pages: their encoding, what decodes, bursts and torn pages. No condition. -/
import Derived.Test.YtcebockdfkjoiaaDoorW
namespace Go.Proofs.YtcebockdfkjoiaaDoor
set_option linter.unusedVariables false
set_option maxHeartbeats 400000

/-- A description. -/
structure Sp where
  kind : Nat
  sector : Int
  seq : Nat
  prev : Nat
  index : Int
  length : Int
deriving DecidableEq
namespace Sp
/-- Its numbers are of their types. -/
structure wf (s : Sp) : Prop where
  kind : s.kind < 256
  seq : s.seq < 18446744073709551616
  prev : s.prev < 18446744073709551616
  sec0 : -9223372036854775808 ≤ s.sector
  sec1 : s.sector ≤ 9223372036854775807
  idx0 : -9223372036854775808 ≤ s.index
  idx1 : s.index ≤ 9223372036854775807
  len0 : -9223372036854775808 ≤ s.length
  len1 : s.length ≤ 9223372036854775807
def zero : Sp := ⟨0, 0, 0, 0, 0, 0⟩
/-- A valid description. -/
def ok (s : Sp) : Prop := (1 ≤ s.seq ∧ 1 ≤ s.length ∧ s.length ≤ 65535 ∧ 0 ≤ s.index ∧ s.index < s.length) ∧
  ((s.kind = 1 ∧ (0 ≤ s.sector ∧ s.sector ≤ 4294967294) ∧ s.prev = 0 ∧ s.length = 1) ∨ ((s.kind = 2 ∨ s.kind = 3) ∧ s.sector = 0 ∧ s.prev < s.seq ∧ s.index < (s.seq : Int) - s.prev))
instance (s : Sp) : Decidable s.ok := by unfold ok; infer_instance
/-- The 60 bytes before the checksum. -/
def body (s : Sp) : List UInt8 := putB 1280591427 4 ++ putB s.kind 1 ++ putB 0 3 ++ putB s.seq 8 ++ putB s.prev 8 ++ putB s.sector.toNat 4 ++ putB s.index.toNat 4 ++ putB s.length.toNat 4 ++ List.replicate 24 0
theorem body_length (s : Sp) : s.body.length = 60 := by simp only [body, List.length_append, putB_length, List.length_replicate]
/-- The encoding for the data bytes of a page. -/
def enc (s : Sp) (data : List UInt8) : List UInt8 := s.body ++ putB (crc32 (data ++ s.body)) 4
theorem enc_length (s : Sp) (data : List UInt8) : (s.enc data).length = 64 := by simp only [enc, List.length_append, putB_length, body_length]
/-- What 60 bytes say. -/
def raw (b : List UInt8) : Sp := ⟨getV ((b.drop 4).take 1), getV ((b.drop 24).take 4), getV ((b.drop 8).take 8), getV ((b.drop 16).take 8), getV ((b.drop 28).take 4), getV ((b.drop 32).take 4)⟩
/-- They are those of an encoding. -/
def fine (b : List UInt8) : Prop := getV ((b.drop 0).take 4) = 1280591427 ∧ (b.drop 5).take 3 = List.replicate 3 0 ∧ (b.drop 36).take 24 = List.replicate 24 0 ∧ (raw b).ok
instance (b : List UInt8) : Decidable (fine b) := by unfold fine; infer_instance
/-- What decodes, and the error. -/
def dec (b data : List UInt8) : Sp × Int :=
  if b.length ≠ 64 then (zero, 2) else if getV (b.drop 60) ≠ crc32 (data ++ b.take 60) then (zero, 10) else if fine (b.take 60) then (raw (b.take 60), 0) else (zero, 6)
end Sp

theorem getV_putB (V : Nat) : ∀ n, getV (putB V n) = V % 256 ^ n
  | 0 => by simp [putB_zero, getV, Nat.mod_one]
  | n + 1 => by
    have h : V % 256 ^ (n + 1) = V % 256 ^ n + 256 ^ n * (V / 256 ^ n % 256) := by rw [Nat.pow_succ (n := 256), Nat.mod_mul]
    rw [putB_succ, getV_snoc, getV_putB V n, putB_length, UInt8.toNat_ofNat', h, Nat.mul_comm (256 ^ n)]
theorem getV_inj : ∀ {a b : List UInt8}, a.length = b.length → getV a = getV b → a = b
  | [], [], _, _ => rfl
  | x :: a, y :: b, hl, h => by
    have e : ∀ (z : UInt8) l, getV (z :: l) = z.toNat + 256 * getV l := fun z l => by simp [getV]
    rw [e, e] at h
    have hx := byte_lt x
    have hy := byte_lt y
    have hxy : x = y := UInt8.toNat_inj.1 (by omega)
    have hab : a = b := getV_inj (by simpa using hl) (by omega)
    rw [hxy, hab]
  | [], y :: b, h, _ => by simp at h
  | x :: a, [], h, _ => by simp at h
theorem putB_getV (l : List UInt8) : putB (getV l) l.length = l := by
  refine getV_inj (putB_length _ _) ?_
  rw [getV_putB, Nat.mod_eq_of_lt (getV_lt l)]

theorem putB_getV' (l : List UInt8) (n : Nat) (h : l.length = n) : putB (getV l) n = l := by subst h; exact putB_getV l
/-- The parts of 60 bytes. -/
theorem parts60 (b : List UInt8) (h : b.length = 60) : b = (b.drop 0).take 4 ++ (b.drop 4).take 1 ++ (b.drop 5).take 3 ++ (b.drop 8).take 8 ++ (b.drop 16).take 8 ++ (b.drop 24).take 4 ++ (b.drop 28).take 4 ++ (b.drop 32).take 4 ++ (b.drop 36).take 24 := by
  have e : ∀ i n, (b.drop i).take n ++ b.drop (i + n) = b.drop i := fun i n => by rw [← List.drop_drop, List.take_append_drop]
  have e9 : (b.drop 36).take 24 = b.drop 36 := List.take_of_length_le (by rw [List.length_drop]; omega)
  simp only [List.append_assoc]
  rw [e9, e 32 4, e 28 4, e 24 4, e 16 8, e 8 8, e 5 3, e 4 1, e 0 4]
  rfl
theorem cut_len (b : List UInt8) (h : b.length = 60) (i n : Nat) (hn : i + n ≤ 60) : ((b.drop i).take n).length = n := by rw [List.length_take, List.length_drop]; omega
namespace Sp
/-- Bytes that are those of a valid description are its encoding. -/
theorem body_raw (b : List UInt8) (h : b.length = 60) (hf : fine b) : (raw b).body = b := by
  obtain ⟨h1, h2, h3, -⟩ := hf
  have e0 : putB 1280591427 4 = (b.drop 0).take 4 := by rw [← h1]; exact putB_getV' _ 4 (cut_len b h 0 4 (by omega))
  have ez : putB 0 3 = (b.drop 5).take 3 := by rw [h2]; decide
  conv => rhs; rw [parts60 b h]
  unfold body raw
  simp only [Int.toNat_natCast]
  rw [e0, ez, h3, putB_getV' _ 1 (cut_len b h 4 1 (by omega)), putB_getV' _ 8 (cut_len b h 8 8 (by omega)), putB_getV' _ 8 (cut_len b h 16 8 (by omega)), putB_getV' _ 4 (cut_len b h 24 4 (by omega)), putB_getV' _ 4 (cut_len b h 28 4 (by omega)), putB_getV' _ 4 (cut_len b h 32 4 (by omega))]
theorem cut_app {α : Type} (a b c : List α) (i n : Nat) (hi : a.length = i) (hn : b.length = n) : ((a ++ b ++ c).drop i).take n = b := by
  subst hi; subst hn
  rw [List.append_assoc, List.drop_left, List.take_left]
/-- The parts of an encoding. -/
theorem body_cuts (s : Sp) : (s.body.drop 0).take 4 = putB 1280591427 4 ∧ (s.body.drop 4).take 1 = putB s.kind 1 ∧ (s.body.drop 5).take 3 = putB 0 3 ∧ (s.body.drop 8).take 8 = putB s.seq 8 ∧ (s.body.drop 16).take 8 = putB s.prev 8 ∧
    (s.body.drop 24).take 4 = putB s.sector.toNat 4 ∧ (s.body.drop 28).take 4 = putB s.index.toNat 4 ∧ (s.body.drop 32).take 4 = putB s.length.toNat 4 ∧ (s.body.drop 36).take 24 = List.replicate 24 0 := by
  have e : ∀ X Y Z : List UInt8, s.body = X ++ Y ++ Z → ∀ i n, X.length = i → Y.length = n → (s.body.drop i).take n = Y := fun X Y Z h i n h1 h2 => by rw [h]; exact cut_app X Y Z i n h1 h2
  refine ⟨e [] _ (putB s.kind 1 ++ putB 0 3 ++ putB s.seq 8 ++ putB s.prev 8 ++ putB s.sector.toNat 4 ++ putB s.index.toNat 4 ++ putB s.length.toNat 4 ++ List.replicate 24 0) ?_ 0 4 ?_ ?_,
    e (putB 1280591427 4) _ (putB 0 3 ++ putB s.seq 8 ++ putB s.prev 8 ++ putB s.sector.toNat 4 ++ putB s.index.toNat 4 ++ putB s.length.toNat 4 ++ List.replicate 24 0) ?_ 4 1 ?_ ?_,
    e (putB 1280591427 4 ++ putB s.kind 1) _ (putB s.seq 8 ++ putB s.prev 8 ++ putB s.sector.toNat 4 ++ putB s.index.toNat 4 ++ putB s.length.toNat 4 ++ List.replicate 24 0) ?_ 5 3 ?_ ?_,
    e (putB 1280591427 4 ++ putB s.kind 1 ++ putB 0 3) _ (putB s.prev 8 ++ putB s.sector.toNat 4 ++ putB s.index.toNat 4 ++ putB s.length.toNat 4 ++ List.replicate 24 0) ?_ 8 8 ?_ ?_,
    e (putB 1280591427 4 ++ putB s.kind 1 ++ putB 0 3 ++ putB s.seq 8) _ (putB s.sector.toNat 4 ++ putB s.index.toNat 4 ++ putB s.length.toNat 4 ++ List.replicate 24 0) ?_ 16 8 ?_ ?_,
    e (putB 1280591427 4 ++ putB s.kind 1 ++ putB 0 3 ++ putB s.seq 8 ++ putB s.prev 8) _ (putB s.index.toNat 4 ++ putB s.length.toNat 4 ++ List.replicate 24 0) ?_ 24 4 ?_ ?_,
    e (putB 1280591427 4 ++ putB s.kind 1 ++ putB 0 3 ++ putB s.seq 8 ++ putB s.prev 8 ++ putB s.sector.toNat 4) _ (putB s.length.toNat 4 ++ List.replicate 24 0) ?_ 28 4 ?_ ?_,
    e (putB 1280591427 4 ++ putB s.kind 1 ++ putB 0 3 ++ putB s.seq 8 ++ putB s.prev 8 ++ putB s.sector.toNat 4 ++ putB s.index.toNat 4) _ (List.replicate 24 0) ?_ 32 4 ?_ ?_,
    e (putB 1280591427 4 ++ putB s.kind 1 ++ putB 0 3 ++ putB s.seq 8 ++ putB s.prev 8 ++ putB s.sector.toNat 4 ++ putB s.index.toNat 4 ++ putB s.length.toNat 4) _ [] ?_ 36 24 ?_ ?_⟩
  all_goals first
    | (unfold body; simp only [List.append_assoc, List.append_nil, List.nil_append]; done)
    | (simp only [List.length_append, putB_length, List.length_replicate, List.length_nil]; done)
theorem raw_body {s : Sp} (hw : s.wf) (h : s.ok) : raw s.body = s := by
  obtain ⟨-, c1, -, c2, c3, c4, c5, c6, -⟩ := body_cuts s
  have k := hw.kind; have q := hw.seq; have p := hw.prev
  unfold raw
  rw [c1, c2, c3, c4, c5, c6]
  simp only [getV_putB]
  obtain ⟨⟨h1, h2, h3, h4, h5⟩, h6⟩ := h
  have hs : 0 ≤ s.sector ∧ s.sector ≤ 4294967294 := by rcases h6 with h | h <;> omega
  rcases s with ⟨k', a, b, c, d, e⟩
  simp only [Nat.reducePow] at *
  congr 1 <;> omega
theorem fine_body {s : Sp} (hw : s.wf) (h : s.ok) : fine s.body := by
  obtain ⟨c0, -, c1, -, -, -, -, -, c2⟩ := body_cuts s
  refine ⟨?_, ?_, c2, ?_⟩
  · rw [c0, getV_putB]
  · rw [c1]; decide
  · rw [raw_body hw h]; exact h
theorem enc_take (s : Sp) (data : List UInt8) : (s.enc data).take 60 = s.body := by
  unfold enc
  rw [List.take_append_of_le_length (by rw [body_length]; exact Nat.le_refl _), List.take_of_length_le (by rw [body_length]; exact Nat.le_refl _)]
theorem enc_drop (s : Sp) (data : List UInt8) : (s.enc data).drop 60 = putB (crc32 (data ++ s.body)) 4 := by
  unfold enc
  rw [List.drop_left' (body_length s)]
/-- Decode inverts Encode. -/
theorem dec_enc {s : Sp} (hw : s.wf) (h : s.ok) (data : List UInt8) : dec (s.enc data) data = (s, 0) := by
  unfold dec
  rw [if_neg (by rw [enc_length]; simp), enc_take, enc_drop, if_neg, if_pos (fine_body hw h), raw_body hw h]
  have := crc32_lt (data ++ s.body)
  rw [getV_putB]
  simp only [Nat.reducePow]
  omega
theorem raw_wf (b : List UInt8) (h : b.length = 60) : (raw b).wf := by
  have e := cut_len b h
  have := getV_lt ((b.drop 4).take 1); rw [e 4 1 (by omega)] at this
  have := getV_lt ((b.drop 24).take 4); rw [e 24 4 (by omega)] at this
  have := getV_lt ((b.drop 8).take 8); rw [e 8 8 (by omega)] at this
  have := getV_lt ((b.drop 16).take 8); rw [e 16 8 (by omega)] at this
  have := getV_lt ((b.drop 28).take 4); rw [e 28 4 (by omega)] at this
  have := getV_lt ((b.drop 32).take 4); rw [e 32 4 (by omega)] at this
  simp only [Nat.reducePow] at *
  refine ⟨?_, ?_, ?_, ?_, ?_, ?_, ?_, ?_, ?_⟩ <;> simp only [raw] <;> omega
end Sp
end Go.Proofs.YtcebockdfkjoiaaDoor
