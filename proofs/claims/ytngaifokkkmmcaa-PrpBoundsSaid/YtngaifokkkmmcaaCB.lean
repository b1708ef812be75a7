/- The contract of the law's spans; what is read behind a write of addresses. Conditions stand in each theorem. -/
import Derived.Test.YtngaifokkkmmcaaCA
namespace Go.Proofs.Ytngaifokkkmmcaa
open Go.RowKit Go.Shelf
set_option linter.unusedVariables false
set_option maxHeartbeats 4000000
set_option maxRecDepth 100000
theorem spans_eq (pv vw : Value) (fs sc n no : Int) (r : Except Int (List (Nat × Nat))) (w : World) (HS : Calls Try.prog 20 #[pv, .int .u64 fs, .int .u64 sc, .int .i64 n] w (SpPost w r)) (hno : numO r = no) (hv : Spn w vw (lstO r)) (hl : (lstO r).length ≤ 1000000) :
    Calls Try.prog 18 #[pv, .int .u64 fs, .int .u64 sc, .int .i64 n, .int .i64 no, vw] w fun e w' => e = .returned (.bool true) ∧ Below w.heap.size w w' := by
  have H := Lib.hid HS
  have HV := Lib.hid hv
  have HL := Lib.hid hl
  clear HS hv hl
  rw [← hno]
  clear hno
  go_enter Try.func18, Try.ntmps18
  go_wp2_with fail
  with_reducible refine H.out.mono ?_
  rintro e w1 ⟨⟨A, c, rfl, ho⟩, hb⟩
  have HB1 := Lib.hid hb
  have HQ := Lib.hid (Same_eq _ vw (lstO r) w1 (spn_of_own ho) (HV.out.below hb) HL.out)
  clear ho hb
  generalize (lstO r).length = N at *
  generalize numO r = q at *
  have HN := Lib.hid (fun W => num_any q W)
  go_wp2_with (first
    | ((go_at_call 44; with_reducible refine HQ.out.mono ?_); rintro e w2 ⟨rfl, hb⟩; have HB2 := Lib.hid (HB1.out.trans (hb.mono HB1.out.size)); clear hb)
    | ((go_at_call 12; with_reducible refine (HN.out _).mono ?_); rintro e w' ⟨rfl, rfl⟩))
  go_ret
  exact ⟨rfl, HB2.out⟩
theorem enc_cons (x : Nat) (xs : List Nat) : enc (x :: xs) = putB x 8 ++ enc xs := by simp [enc]
theorem enc_at : ∀ (xs : List Nat) (j : Nat) (h : j < xs.length), ((enc xs).drop (j * 8)).take 8 = putB xs[j] 8
  | [], j, h => absurd h (by simp)
  | x :: xs, 0, h => by
    rw [enc_cons, Nat.zero_mul, List.drop_zero, List.take_append_of_le_length (by rw [putB_length]; exact Nat.le_refl 8), List.take_of_length_le (by rw [putB_length]; exact Nat.le_refl 8)]
    rfl
  | x :: xs, j + 1, h => by
    have ih := enc_at xs j (by simpa using h)
    rw [enc_cons, show (j + 1) * 8 = 8 + j * 8 by omega, ← List.drop_drop]
    have e : (putB x 8 ++ enc xs).drop 8 = enc xs := by
      have := putB_length x 8
      rw [List.drop_append_of_le_length (by omega), List.drop_of_length_le (by omega), List.nil_append]
    rw [e]
    exact ih
/-- What lies at an address that was written. -/
theorem at8_ch {m : Mm} {a : Nat} {xs : List Nat} (hz : m.chk a ((xs.length * 8 : Nat) : Int) = 0) {j : Nat} (hj : j < xs.length) (hx : xs[j] < 18446744073709551616) : at8 (m.ch a ((enc xs).length : Int) (enc xs)) (a + j * 8) = xs[j] := by
  have hz' : m.chk a ((enc xs).length : Int) = 0 := by rw [enc_length]; exact hz
  obtain ⟨k, hk, hk2⟩ := Mm.chk_ok hz
  have hl := enc_length xs
  have ht : (m.B.take a).length = a := by rw [List.length_take]; omega
  unfold at8
  rw [Mm.ch_B hz']
  have e : ((pat m.B a (enc xs)).drop (a + j * 8)).take 8 = ((enc xs).drop (j * 8)).take 8 := by
    unfold pat
    rw [List.append_assoc, ← List.drop_drop, List.drop_left' ht, List.drop_append_of_le_length (by omega), List.take_append_of_le_length (by rw [List.length_drop]; omega)]
  rw [e, enc_at xs j hj, getV_putB, Nat.mod_eq_of_lt (by simpa using hx)]
theorem at8_off {m : Mm} {a : Nat} {xs : List Nat} {p : Nat} (hz : m.chk a ((xs.length * 8 : Nat) : Int) = 0) (hp : p + 8 ≤ a ∨ a + xs.length * 8 ≤ p) : at8 (m.ch a ((enc xs).length : Int) (enc xs)) p = at8 m p := by
  have hz' : m.chk a ((enc xs).length : Int) = 0 := by rw [enc_length]; exact hz
  obtain ⟨k, hk, hk2⟩ := Mm.chk_ok hz
  have hl := enc_length xs
  unfold at8
  rw [Mm.ch_B hz']
  congr 1
  apply List.ext_getElem?
  intro i
  rw [List.getElem?_take, List.getElem?_take]
  split
  · rw [List.getElem?_drop, List.getElem?_drop, pat_get (by omega)]
    split
    · rfl
    · rw [if_neg (by omega)]
  · rfl
theorem ch_len {m : Mm} {a : Nat} {xs : List Nat} : (m.ch a ((enc xs).length : Int) (enc xs)).B.length = m.B.length := by
  by_cases hz : m.chk a ((enc xs).length : Int) = 0
  · obtain ⟨k, hk, hk2⟩ := Mm.chk_ok hz
    rw [Mm.ch_B hz, pat_len (by omega)]
  · rw [Mm.ch_bad hz]
end Go.Proofs.Ytngaifokkkmmcaa
