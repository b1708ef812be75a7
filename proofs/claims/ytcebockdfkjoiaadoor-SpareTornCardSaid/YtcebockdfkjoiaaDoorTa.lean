/- The plain mathematics of torn pages. No condition. -/
import Derived.Test.YtcebockdfkjoiaaDoorT
namespace Go.Proofs.YtcebockdfkjoiaaDoor
set_option linter.unusedVariables false
set_option maxHeartbeats 400000

/-- The page of which the bytes from a on, as far as k, are FF. -/
def fill (L : List UInt8) (a k : Nat) : List UInt8 := L.take a ++ List.replicate (k - a) 255 ++ L.drop k
theorem fill_start (L : List UInt8) (a : Nat) : fill L a a = L := by simp [fill]
theorem fill_length (L : List UInt8) (a k : Nat) (h : a ≤ k) (hk : k ≤ L.length) : (fill L a k).length = L.length := by
  simp [fill]; omega
theorem fill_step (L : List UInt8) (a k : Nat) (h : a ≤ k) (hk : k < L.length) : fill L a (k + 1) = (fill L a k).set k 255 := by
  have h1 : (L.take a ++ List.replicate (k - a) (255 : UInt8)).length = k := by simp; omega
  unfold fill
  rw [List.set_append_right _ _ (by omega), h1, Nat.sub_self, List.drop_eq_getElem_cons hk, List.set_cons_zero, show k + 1 - a = (k - a) + 1 by omega, List.replicate_succ', ← List.append_assoc, List.append_assoc]
  rfl
theorem fill_end (L : List UInt8) (a : Nat) : fill L a L.length = L.take a ++ List.replicate (L.length - a) 255 := by simp [fill]
theorem fill_at (L : List UInt8) (a j : Nat) (h : a ≤ j) (hj : j < L.length) : (fill L a L.length)[j]? = some 255 := by
  rw [fill_end, List.getElem?_append_right (by simp; omega)]
  rw [List.getElem?_replicate, if_pos (by simp; omega)]
theorem fill_before (L : List UInt8) (a m : Nat) (h : m ≤ a) (ha : a ≤ L.length) : (fill L a L.length).take m = L.take m := by
  rw [fill_end, List.take_append_of_le_length (by simp; omega), List.take_take, Nat.min_eq_left h]
namespace Sp
theorem torn (s : Sp) (data : List UInt8) (a : Nat) (hw : s.wf) (h : s.ok) (ha : a ≤ data.length + 64) (L' : List UInt8) (hL : L' = fill (data ++ s.enc data) a (data ++ s.enc data).length) :
    (dec (L'.drop data.length) (L'.take data.length)).2 = 0 ↔ (L'.take data.length = data ∧ L'.drop data.length = s.enc data) := by
  have hl : (data ++ s.enc data).length = data.length + 64 := by rw [List.length_append, enc_length]
  have hl' : L'.length = data.length + 64 := by rw [hL, fill_length _ _ _ (by omega) (Nat.le_refl _), hl]
  obtain ⟨c1, c2, c3, c4⟩ := cut_page L' data.length hl'
  constructor
  · intro hd
    unfold dec at hd
    rw [if_neg (by omega), c1, c2] at hd
    split at hd
    · simp at hd
    rename_i hsum
    have hsum : getV (L'.drop (data.length + 60)) = crc32 (L'.take (data.length + 60)) := by simpa using hsum
    split at hd
    · rename_i hf
      have h60 : data.length + 60 ≤ a := by
        rcases Nat.lt_or_ge a (data.length + 60) with hlt | hge
        · exfalso
          have h255 : L'[data.length + 59]? = some 255 := by rw [hL]; exact fill_at _ _ _ (by omega) (by omega)
          have h0 : (((L'.drop data.length).take 60).drop 36).take 24 = List.replicate 24 0 := hf.2.2.1
          have h1 := congrArg (·[23]?) h0
          simp only [List.getElem?_take, List.getElem?_drop] at h1
          rw [if_pos (by decide), if_pos (by decide), h255] at h1
          simp at h1
        · exact hge
      have hbef : L'.take (data.length + 60) = data ++ s.body := by
        rw [hL, fill_before _ _ _ h60 (by omega), page_parts, List.take_left' (by rw [List.length_append, body_length])]
      rw [hbef] at hsum
      have htail : L'.drop (data.length + 60) = putB (crc32 (data ++ s.body)) 4 := by
        refine getV_inj (by rw [List.length_drop, putB_length]; omega) ?_
        rw [hsum, getV_putB, Nat.mod_eq_of_lt (crc32_lt _)]
      have hall : L' = data ++ s.enc data := by rw [← List.take_append_drop (data.length + 60) L', hbef, htail, page_parts]
      rw [hall, List.take_left, List.drop_left]
      exact ⟨rfl, rfl⟩
    · simp at hd
  · rintro ⟨h1, h2⟩
    rw [h1, h2, dec_enc hw h]
end Sp
end Go.Proofs.YtcebockdfkjoiaaDoor
