/- The chapter's examples: the function works returns true and changes nothing that was there. Condition: the table lies as the program's text lays it. -/
import Derived.Test.YtcebockdfkjoiaaDoorJ
namespace Go.Proofs.YtcebockdfkjoiaaDoor
open Go.RowKit
set_option linter.unusedVariables false
set_option maxHeartbeats 2000000
set_option maxRecDepth 100000

theorem num_any (n : Int) (w : World) : Calls Tryd.prog 12 #[.int .i64 n] w fun e w' => e = .returned (.int .i64 n) ∧ w = w' := by
  go_enter Tryd.func12, Tryd.ntmps12
  go_wp2
  go_ret
  exact ⟨rfl, rfl⟩
theorem same_any (v1 v2 : Value) (l1 l2 : List UInt8) (w : World) (h1 : Byt w v1 l1) (h2 : Byt w v2 l2) : Calls Tryd.prog 11 #[v1, v2] w fun e w' => e = .returned (.bool (decide (l1 = l2))) ∧ w = w' := by
  have r1 := run_string 26 9 5 Tryd.underlying26 Tryd.underlying5 Tryd.underlying9 h1
  have r2 := run_string 26 9 5 Tryd.underlying26 Tryd.underlying5 Tryd.underlying9 h2
  clear h1 h2
  by_cases h : l1 = l2
  · subst h
    simp only [decide_true]
    go_enter Tryd.func11, Tryd.ntmps11
    go_wp2
    go_ret
    exact ⟨rfl, rfl⟩
  · simp only [decide_eq_false h]
    have H := Lib.hid h; clear h
    have hne : (l1 == l2) = false := by simpa using H.out
    go_enter Tryd.func11, Tryd.ntmps11
    go_wp2
    go_ret
    exact ⟨ret_bool (by first | rfl | assumption), rfl⟩
def s0 : Sp := ⟨1, 7, 300, 0, 0, 1⟩
theorem s0_ok : s0.ok := by decide
theorem s0_wf : s0.wf := ⟨by decide, by decide, by decide, by decide, by decide, by decide, by decide, by decide, by decide⟩
theorem s0_enc : s0.enc [] = [67, 70, 84, 76, 1, 0, 0, 0, 44, 1, 0, 0, 0, 0, 0, 0, 0, 0, 0, 0, 0, 0, 0, 0, 7, 0, 0, 0, 0, 0, 0, 0, 1, 0, 0, 0, 0, 0, 0, 0, 0, 0, 0, 0, 0, 0, 0, 0, 0, 0, 0, 0, 0, 0, 0, 0, 0, 0, 0, 0] ++ putB (crc32 s0.body) 4 := by
  unfold Sp.enc
  rw [List.nil_append]
  congr 1
theorem s0_at (j : Nat) (x : UInt8) (hj : j < 60) (h : ([67, 70, 84, 76, 1, 0, 0, 0, 44, 1, 0, 0, 0, 0, 0, 0, 0, 0, 0, 0, 0, 0, 0, 0, 7, 0, 0, 0, 0, 0, 0, 0, 1, 0, 0, 0, 0, 0, 0, 0, 0, 0, 0, 0, 0, 0, 0, 0, 0, 0, 0, 0, 0, 0, 0, 0, 0, 0, 0, 0] : List UInt8)[j]? = some x) (hl : j < (s0.enc []).length) : (s0.enc [])[j] = x := by
  have : (s0.enc [])[j]? = some x := by rw [s0_enc, List.getElem?_append_left (by simpa using hj)]; exact h
  rw [List.getElem?_eq_getElem hl] at this
  exact Option.some.inj this
theorem s0_cut : ((s0.enc []).take 11).drop 8 = [44, 1, 0] := by rw [s0_enc]; rfl
theorem s0_other : Sp.dec (s0.enc []) [0] = (Sp.zero, 10) := by
  unfold Sp.dec
  rw [if_neg (by rw [Sp.enc_length]; simp), Sp.enc_take, Sp.enc_drop, if_pos]
  rw [getV_putB]
  decide +kernel
theorem s0_short : Sp.dec ((s0.enc []).take 63) [] = (Sp.zero, 2) := by
  unfold Sp.dec
  rw [if_pos (by rw [List.length_take, Sp.enc_length]; simp)]
end Go.Proofs.YtcebockdfkjoiaaDoor
