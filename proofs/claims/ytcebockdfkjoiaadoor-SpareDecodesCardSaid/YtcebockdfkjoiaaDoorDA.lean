/- What the reference's Decode says of 64 bytes is what they decode to. No condition. -/
import Derived.Test.YtcebockdfkjoiaaDoorRB
namespace Go.Proofs.YtcebockdfkjoiaaDoor
open Go.RowKit
set_option linter.unusedVariables false

theorem cut_take (b : List UInt8) (i n m : Nat) (h : i + n ≤ m) : ((b.take m).drop i).take n = (b.drop i).take n := by
  rw [List.drop_take, List.take_take, Nat.min_eq_left (by omega)]
theorem raw_take (b : List UInt8) : Sp.raw (b.take 60) = Sp.raw b := by
  unfold Sp.raw
  rw [cut_take b 4 1 60 (by omega), cut_take b 24 4 60 (by omega), cut_take b 8 8 60 (by omega), cut_take b 16 8 60 (by omega), cut_take b 28 4 60 (by omega), cut_take b 32 4 60 (by omega)]
theorem fine_iff (b data : List UInt8) (hl : b.length = 64) (hc : getV (b.drop 60) = crc32 (data ++ b.take 60)) : Sp.fine (b.take 60) ↔ ((Sp.raw b).ok ∧ (Sp.raw b).enc data = b) := by
  have h60 : (b.take 60).length = 60 := by rw [List.length_take]; omega
  have h4 : (b.drop 60).length = 4 := by rw [List.length_drop]; omega
  rw [← raw_take b]
  constructor
  · intro h
    refine ⟨h.2.2.2, ?_⟩
    unfold Sp.enc
    rw [Sp.body_raw _ h60 h, ← hc, putB_getV' _ 4 h4, List.take_append_drop]
  · rintro ⟨h1, h2⟩
    have h3 := Sp.enc_take (Sp.raw (b.take 60)) data
    rw [h2] at h3
    have h5 := Sp.fine_body (Sp.raw_wf _ h60) h1
    rw [← h3] at h5
    exact h5
theorem dec_len (b data : List UInt8) (hl : b.length ≠ 64) : Sp.dec b data = (Sp.zero, 2) := by
  unfold Sp.dec; rw [if_pos hl]
theorem dec_sum (b data : List UInt8) (hl : b.length = 64) (hc : getV (b.drop 60) ≠ crc32 (data ++ b.take 60)) : Sp.dec b data = (Sp.zero, 10) := by
  unfold Sp.dec; rw [if_neg (by omega), if_pos hc]
theorem dec_bad (b data : List UInt8) (hl : b.length = 64) (hc : getV (b.drop 60) = crc32 (data ++ b.take 60)) (h : ¬ ((Sp.raw b).ok ∧ (Sp.raw b).enc data = b)) : Sp.dec b data = (Sp.zero, 6) := by
  unfold Sp.dec; rw [if_neg (by omega), if_neg (by rw [hc]; simp), if_neg (fun h2 => h ((fine_iff b data hl hc).1 h2))]
theorem dec_good (b data : List UInt8) (hl : b.length = 64) (hc : getV (b.drop 60) = crc32 (data ++ b.take 60)) (h1 : (Sp.raw b).ok) (h2 : (Sp.raw b).enc data = b) : Sp.dec b data = (Sp.raw b, 0) := by
  unfold Sp.dec; rw [if_neg (by omega), if_neg (by rw [hc]; simp), if_pos ((fine_iff b data hl hc).2 ⟨h1, h2⟩), raw_take]
theorem raw_wf' (b : List UInt8) (hl : b.length = 64) : (Sp.raw b).wf := by
  have h60 : (b.take 60).length = 60 := by rw [List.length_take]; omega
  rw [← raw_take b]; exact Sp.raw_wf _ h60
end Go.Proofs.YtcebockdfkjoiaaDoor
