/- The contracts of prp's small functions: parts, toEnd, room, Count, Lists, require, areAligned, aligned. Conditions stand in each theorem. -/
import Derived.Test.YtngaifokkkmmcaaPW
import Derived.Test.YtngaifokkkmmcaaH
import Derived.Test.YtngaifokkkmmcaaQT
namespace Go.Proofs.Ytngaifokkkmmcaa
open Go.RowKit
set_option linter.unusedVariables false
set_option maxHeartbeats 1000000
set_option maxRecDepth 100000
theorem parts_any (n s : Nat) (N S : Int) (hN : N = (n : Int)) (hS : S = (s : Int)) (w : World) (hs : 0 < s) (hs2 : s ≤ 4096) (hn : n ≤ 1099511627776) : Calls Try.prog 51 #[.int .i64 N, .int .i64 S] w fun e w' => e = .returned (.int .i64 (((n + s - 1) / s : Nat) : Int)) ∧ w = w' := by
  have hd := Nat.div_le_self (n + s - 1) s
  have h3 : (N + S - 1).tdiv S = (((n + s - 1) / s : Nat) : Int) := by
    rw [Int.tdiv_eq_ediv_of_nonneg (by omega), show N + S - 1 = ((n + s - 1 : Nat) : Int) by omega, hS]
    rfl
  obtain ⟨q, hq⟩ : ∃ q, q = (n + s - 1) / s := ⟨_, rfl⟩
  rw [← hq] at h3 hd ⊢
  have h1 : wrap64 (N + S) = N + S := by unfold wrap64; omega
  have h2 : wrap64 (N + S - 1) = N + S - 1 := by unfold wrap64; omega
  have h1' : IntKind.i64.wrap (N + S) = N + S := by rw [IntKind.wrap_i64]; omega
  have h2' : IntKind.i64.wrap (N + S - 1) = N + S - 1 := by rw [IntKind.wrap_i64]; omega
  have h4 : (S == 0) = false := by simp; omega
  have h5 : IntKind.i64.wrap (q : Int) = (q : Int) := by rw [IntKind.wrap_i64]; omega
  have h5' : wrap64 (q : Int) = (q : Int) := by unfold wrap64; omega
  have h6 : ¬ S = 0 := by omega
  clear hn hN hS hs hs2 hq hd
  generalize (q : Int) = q at *
  go_enter Try.func51, Try.ntmps51
  go_wp2
  go_ret
  exact ⟨rfl, rfl⟩
/-- The number of bytes from a up to the end of its page, and of addresses. -/
def te (a : Nat) : Nat := 4096 - a % 4096
def rm (a : Nat) : Nat := (te a + 7) / 8
theorem toEnd_any (a : Nat) (w : World) (ha : a < 18446744073709551616) : Calls Try.prog 49 #[.int .u64 (a : Int)] w fun e w' => e = .returned (.int .i64 (te a : Int)) ∧ w = w' := by
  have h1 : ((a : Nat) : Int).tmod 4096 = ((a % 4096 : Nat) : Int) := by rw [Int.tmod_eq_emod_of_nonneg (by omega)]; omega
  have h2 : IntKind.i64.wrap ((a % 4096 : Nat) : Int) = ((a % 4096 : Nat) : Int) := by rw [IntKind.wrap_i64]; omega
  have h3 : wrap64 ((4096 : Int) - ((a % 4096 : Nat) : Int)) = (te a : Int) := by unfold wrap64 te; omega
  have h3' : IntKind.i64.wrap ((4096 : Int) - ((a % 4096 : Nat) : Int)) = (te a : Int) := by rw [IntKind.wrap_i64]; unfold te; omega
  have h4 : IntKind.u64.wrap ((a % 4096 : Nat) : Int) = ((a % 4096 : Nat) : Int) := by rw [IntKind.wrap_u64]; omega
  generalize (te a : Int) = t at *
  generalize ((a % 4096 : Nat) : Int) = r at *
  clear ha
  go_enter Try.func49, Try.ntmps49
  go_wp2
  go_ret
  exact ⟨rfl, rfl⟩
theorem te_le (a : Nat) : te a ≤ 4096 ∧ 1 ≤ te a := by unfold te; omega
theorem rm_le (a : Nat) : rm a ≤ 512 ∧ 1 ≤ rm a := by have := te_le a; unfold rm; omega
theorem room_any (a : Nat) (w : World) (ha : a < 18446744073709551616) : Calls Try.prog 54 #[.int .u64 (a : Int)] w fun e w' => e = .returned (.int .i64 (rm a : Int)) ∧ w = w' := by
  have HT := Lib.hid (toEnd_any a w ha)
  have HP := Lib.hid (parts_any (te a) 8 (te a : Int) 8 rfl rfl w (by decide) (by decide) (by have := te_le a; omega))
  have e : (te a + 8 - 1) / 8 = rm a := rfl
  rw [e] at HP
  generalize (te a : Int) = t at *
  clear ha e
  go_enter Try.func54, Try.ntmps54
  go_wp2_with (first
    | ((go_at_call 49; with_reducible refine HT.out.mono ?_); rintro e w' ⟨rfl, rfl⟩)
    | ((go_at_call 51; with_reducible refine HP.out.mono ?_); rintro e w' ⟨rfl, rfl⟩))
  go_ret
  exact ⟨rfl, rfl⟩
/-- The number of pages of a transfer, and of lists. -/
def cnt (first : Nat) (n : Int) : Nat := if n < 1 ∨ 1048576 < n then 0 else (first % 4096 + n.toNat + 4095) / 4096
def lsts (second : Nat) (p : Int) : Nat := if p ≤ 2 ∨ 257 < p then 0 else if p - 1 ≤ (rm second : Int) then 1 else 2
theorem cnt_le (first : Nat) (n : Int) : cnt first n ≤ 257 := by unfold cnt; split <;> omega
theorem Count_any (first : Nat) (n : Int) (w : World) (hf : first < 18446744073709551616) : Calls Try.prog 21 #[.int .u64 (first : Int), .int .i64 n] w fun e w' => e = .returned (.int .i64 (cnt first n : Int)) ∧ w = w' := by
  by_cases h1 : n < 1
  · have hc : cnt first n = 0 := by unfold cnt; rw [if_pos (.inl h1)]
    rw [hc]
    clear hf hc
    go_enter Try.func21, Try.ntmps21
    go_wp2
    go_ret
    exact ⟨rfl, rfl⟩
  · have h1' : 1 ≤ n := by omega
    by_cases h2 : 1048576 < n
    · have hc : cnt first n = 0 := by unfold cnt; rw [if_pos (.inr h2)]
      rw [hc]
      clear hf hc h1
      go_enter Try.func21, Try.ntmps21
      go_wp2
      go_ret
      exact ⟨rfl, rfl⟩
    · have h2' : n ≤ 1048576 := by omega
      have hc : cnt first n = (first % 4096 + n.toNat + 4096 - 1) / 4096 := by unfold cnt; rw [if_neg (by omega)]; omega
      have HP := Lib.hid (parts_any (first % 4096 + n.toNat) 4096 ((first % 4096 + n.toNat : Nat) : Int) 4096 rfl rfl w (by decide) (by decide) (by omega))
      rw [← hc] at HP
      have e1 : ((first : Nat) : Int).tmod 4096 = ((first % 4096 : Nat) : Int) := by rw [Int.tmod_eq_emod_of_nonneg (by omega)]; omega
      have e2 : IntKind.i64.wrap ((first % 4096 : Nat) : Int) = ((first % 4096 : Nat) : Int) := by rw [IntKind.wrap_i64]; omega
      have e3 : wrap64 (((first % 4096 : Nat) : Int) + n) = ((first % 4096 + n.toNat : Nat) : Int) := by unfold wrap64; omega
      have e3' : IntKind.i64.wrap (((first % 4096 : Nat) : Int) + n) = ((first % 4096 + n.toNat : Nat) : Int) := by rw [IntKind.wrap_i64]; omega
      have e4 : IntKind.u64.wrap ((first % 4096 : Nat) : Int) = ((first % 4096 : Nat) : Int) := by rw [IntKind.wrap_u64]; omega
      generalize ((first % 4096 + n.toNat : Nat) : Int) = q at *
      generalize ((first % 4096 : Nat) : Int) = r at *
      clear hf hc h1 h2
      go_enter Try.func21, Try.ntmps21
      go_wp2_with ((go_at_call 51; with_reducible refine HP.out.mono ?_); rintro e w' ⟨rfl, rfl⟩)
      go_ret
      exact ⟨rfl, rfl⟩
theorem Lists_any (second : Nat) (p : Int) (w : World) (hf : second < 18446744073709551616) : Calls Try.prog 24 #[.int .u64 (second : Int), .int .i64 p] w fun e w' => e = .returned (.int .i64 (lsts second p : Int)) ∧ w = w' := by
  by_cases h1 : p ≤ 2
  · have hc : lsts second p = 0 := by unfold lsts; rw [if_pos (.inl h1)]
    rw [hc]
    clear hf hc
    go_enter Try.func24, Try.ntmps24
    go_wp2
    go_ret
    exact ⟨rfl, rfl⟩
  · have h1' : 2 < p := by omega
    by_cases h2 : 257 < p
    · have hc : lsts second p = 0 := by unfold lsts; rw [if_pos (.inr h2)]
      rw [hc]
      clear hf hc h1
      go_enter Try.func24, Try.ntmps24
      go_wp2
      go_ret
      exact ⟨rfl, rfl⟩
    · have h2' : p ≤ 257 := by omega
      have HR := Lib.hid (room_any second w hf)
      have e1 : wrap64 (p - 1) = p - 1 := by unfold wrap64; omega
      have e1' : IntKind.i64.wrap (p - 1) = p - 1 := by rw [IntKind.wrap_i64]; omega
      by_cases h3 : p - 1 ≤ (rm second : Int)
      · have hc : lsts second p = 1 := by unfold lsts; rw [if_neg (by omega), if_pos h3]
        rw [hc]
        clear hf hc h1 h2
        go_enter Try.func24, Try.ntmps24
        go_wp2_with ((go_at_call 54; with_reducible refine HR.out.mono ?_); rintro e w' ⟨rfl, rfl⟩)
        go_ret
        exact ⟨rfl, rfl⟩
      · have hc : lsts second p = 2 := by unfold lsts; rw [if_neg (by omega), if_neg h3]
        rw [hc]
        have h3' : decide (p - 1 ≤ (rm second : Int)) = false := decide_eq_false h3
        clear hf hc h1 h2
        go_enter Try.func24, Try.ntmps24
        go_wp2_with ((go_at_call 54; with_reducible refine HR.out.mono ?_); rintro e w' ⟨rfl, rfl⟩)
        go_ret
        exact ⟨rfl, rfl⟩
/-- A call that has raised the error q. -/
abbrev Pan (q : Int) : Ending := .panicked [{ v := .iface 38 (.int .i64 q), recovered := false }]
theorem req_cut (q : Int) (g : Nat) (bs : List Bool) (w : World) (hc : ∀ j (hj : j < bs.length), w.cell? ⟨g, j, none⟩ = some (.bool bs[j])) (hm : bs.length ≤ 100) :
    Calls Try.prog 35 #[.int .i64 q, .slice (some ⟨g, 0, none⟩) bs.length bs.length] w fun e w' => (if bs.all id then e = .returned (.tuple #[]) else e = Pan q) ∧ w = w' := by
  have HC := Lib.hid hc
  have HY : Hid ((∀ j (hj : j < bs.length), bs[j] = true) → bs.all id = true) := Lib.hid fun h => List.all_eq_true.2 fun x hx => by
    obtain ⟨j, hj, rfl⟩ := List.getElem_of_mem hx
    exact h j hj
  have HN : Hid (∀ j (hj : j < bs.length), bs[j] = false → bs.all id = false) := Lib.hid fun j hj h => by
    cases ha : bs.all id
    · rfl
    · have := List.all_eq_true.1 ha _ (List.getElem_mem hj)
      rw [id, h] at this
      cases this
  have hl : (bs.length : Int) ≤ 100 := by omega
  clear hc hm
  go_enter Try.func35, Try.ntmps35
  go_wp2
  go_loopw [8] (fun i wr => ∃ k : Nat, k ≤ bs.length ∧ i = .int .i64 k ∧ Hid (∀ j (hj : j < bs.length), j < k → bs[j] = true) ∧ wr = w) (fun i _ => bs.length - (RowKit.intOf i).toNat)
  case atStart => exact ⟨0, Nat.zero_le _, rfl, Lib.hid (fun j hj h => absurd h (by omega)), rfl⟩
  case round =>
    obtain ⟨k, hk, rfl, HA, rfl⟩ := hrel
    by_cases hlt : k < bs.length
    · have c1 := HC.out k hlt
      have HNX : Hid (bs[k] = true → ∀ j (hj : j < bs.length), j < k + 1 → bs[j] = true) := Lib.hid (fun e j hj h => by
        rcases Nat.lt_or_ge j k with h1 | h1
        · exact HA.out j hj h1
        · have : j = k := by omega
          subst this
          exact e)
      have HNO := Lib.hid (HN.out k hlt)
      obtain ⟨x, hx⟩ : ∃ x, x = bs[k] := ⟨_, rfl⟩
      rw [← hx] at c1 HNX HNO
      clear hx
      cases x
      · have HF := Lib.hid (HNO.out rfl)
        go_wp2
        exact ⟨rfl, by rw [HF.out]; rfl, rfl⟩
      · have HX := Lib.hid (HNX.out rfl)
        go_wp2
        go_roundw
        case rel => exact ⟨k + 1, by omega, by go_num, HX, trivial⟩
        case measure => simp [RowKit.intOf]; omega
    · have HE := Lib.hid (HY.out (fun j hj => HA.out j hj (by omega)))
      go_wp2
      go_end0
      exact ⟨by first | rfl | (rw [HE.out]; rfl), rfl⟩
/-- require at a list of conditions that was just made. -/
theorem req_new (q : Int) (bs : List Bool) (W : World) (hm : bs.length ≤ 100) :
    Calls Try.prog 35 #[.int .i64 q, .slice (some ⟨W.heap.size, 0, none⟩) bs.length bs.length] (W.alloc (.cells (bs.map Value.bool).toArray 4)) fun e w' => (if bs.all id then e = .returned (.tuple #[]) else e = Pan q) ∧ W.alloc (.cells (bs.map Value.bool).toArray 4) = w' :=
  req_cut q W.heap.size bs _ (fun j hj => by rw [cell_of_row _ W.heap.size j _ 4 (0, 0) (heap_alloc_new W _)]; simp [hj]) hm
theorem req1_y (q : Int) (W : World) : Calls Try.prog 35 #[.int .i64 q, .slice (some ⟨W.heap.size, 0, none⟩) 1 1] (W.alloc (.cells #[.bool true] 4)) fun e w' => e = .returned (.tuple #[]) ∧ W.alloc (.cells #[.bool true] 4) = w' :=
  (req_new q [true] W (by simp)).mono fun e w' h => by simpa using h
theorem req1_n (q : Int) (W : World) : Calls Try.prog 35 #[.int .i64 q, .slice (some ⟨W.heap.size, 0, none⟩) 1 1] (W.alloc (.cells #[.bool false] 4)) fun e w' => e = Pan q ∧ W.alloc (.cells #[.bool false] 4) = w' :=
  (req_new q [false] W (by simp)).mono fun e w' h => by simpa using h
theorem req2_y (q : Int) (W : World) : Calls Try.prog 35 #[.int .i64 q, .slice (some ⟨W.heap.size, 0, none⟩) 2 2] (W.alloc (.cells #[.bool true, .bool true] 4)) fun e w' => e = .returned (.tuple #[]) ∧ W.alloc (.cells #[.bool true, .bool true] 4) = w' :=
  (req_new q [true, true] W (by simp)).mono fun e w' h => by simpa using h
theorem req2_n (q : Int) (x y : Bool) (h0 : (x && y) = false) (W : World) : Calls Try.prog 35 #[.int .i64 q, .slice (some ⟨W.heap.size, 0, none⟩) 2 2] (W.alloc (.cells #[.bool x, .bool y] 4)) fun e w' => e = Pan q ∧ W.alloc (.cells #[.bool x, .bool y] 4) = w' :=
  (req_new q [x, y] W (by simp)).mono fun e w' h => by
    have e0 : [x, y].all id = false := by simpa using h0
    rw [e0] at h
    exact h
theorem req6_y (q : Int) (W : World) : Calls Try.prog 35 #[.int .i64 q, .slice (some ⟨W.heap.size, 0, none⟩) 6 6] (W.alloc (.cells #[.bool true, .bool true, .bool true, .bool true, .bool true, .bool true] 4)) fun e w' => e = .returned (.tuple #[]) ∧ W.alloc (.cells #[.bool true, .bool true, .bool true, .bool true, .bool true, .bool true] 4) = w' :=
  (req_new q [true, true, true, true, true, true] W (by simp)).mono fun e w' h => by simpa using h
theorem req6_n (q : Int) (a b c d e' f : Bool) (h0 : (a && (b && (c && (d && (e' && f))))) = false) (W : World) : Calls Try.prog 35 #[.int .i64 q, .slice (some ⟨W.heap.size, 0, none⟩) 6 6] (W.alloc (.cells #[.bool a, .bool b, .bool c, .bool d, .bool e', .bool f] 4)) fun e w' => e = Pan q ∧ W.alloc (.cells #[.bool a, .bool b, .bool c, .bool d, .bool e', .bool f] 4) = w' :=
  (req_new q [a, b, c, d, e', f] W (by simp)).mono fun e w' h => by
    have e0 : [a, b, c, d, e', f].all id = false := by simpa using h0
    rw [e0] at h
    exact h
/-- A result, or an error that was raised. -/
def RP (r : Except Int Value) (e : Ending) : Prop := match r with | .ok v => e = .returned v | .error q => e = Pan q
theorem requireOK_yes (w : World) : Calls Try.prog 50 #[.int .i64 0] w fun e w' => e = .returned (.tuple #[]) ∧ Below w.heap.size w w' := by
  have HR := Lib.hid (req1_y 0 w)
  go_enter Try.func50, Try.ntmps50
  go_wp2_with ((go_at_call 35; with_reducible refine HR.out.mono ?_); rintro e w' ⟨rfl, rfl⟩)
  go_end0
  exact ⟨rfl, below_alloc _ _⟩
theorem requireOK_no (q : Int) (w : World) (hq : q ≠ 0) : Calls Try.prog 50 #[.int .i64 q] w fun e w' => e = Pan q ∧ Below w.heap.size w w' := by
  have HR := Lib.hid (req1_n q w)
  have h1 : (q == 0) = false := by simp [hq]
  have h2 : decide (q = 0) = false := decide_eq_false hq
  clear hq
  go_enter Try.func50, Try.ntmps50
  go_wp2_with ((go_at_call 35; with_reducible refine HR.out.mono ?_); rintro e w' ⟨rfl, rfl⟩)
  exact ⟨rfl, rfl, below_alloc _ _⟩
end Go.Proofs.Ytngaifokkkmmcaa
