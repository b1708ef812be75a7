/- The walk of MemoryBounds. Conditions stand in each theorem. -/
import Derived.Test.YtmnlkejhhdbhlaaKW
import Derived.Deep.CutBlock
namespace Go.Proofs.Ytmnlkejhhdbhlaa
open Go.RowKit
set_option linter.unusedVariables false
set_option maxHeartbeats 8000000
set_option maxRecDepth 100000
theorem Mm.chk_bad {m : Mm} {a : Nat} {n : Int} (h : 0 ≤ n) (hb : m.B.length < a ∨ ((m.B.length - a : Nat) : Int) < n) : m.chk a n = 3 := by
  unfold Mm.chk
  rw [if_neg (by omega), if_neg (by omega)]
theorem Mm.ch_bad {m : Mm} {a : Nat} {n : Int} {l : List UInt8} (h : m.chk a n ≠ 0) : m.ch a n l = m := by unfold Mm.ch; rw [if_neg h]
theorem Mm.ch_B {m : Mm} {a : Nat} {n : Int} {l : List UInt8} (h : m.chk a n = 0) : (m.ch a n l).B = pat m.B a l := by
  unfold Mm.ch Mm.log
  rw [if_pos h]
  split <;> rfl
theorem Mm.rd_one {m : Mm} {a : Nat} {x : UInt8} (h : m.chk a 1 = 0) (hx : m.B[a]? = some x) : m.rd a 1 = [x] := by
  unfold Mm.rd
  rw [if_pos h]
  have hl : a < m.B.length := (List.getElem?_eq_some_iff.1 hx).1
  have e : m.B[a] = x := (List.getElem?_eq_some_iff.1 hx).2
  show ((m.B.drop a).take 1) = [x]
  rw [List.drop_eq_getElem_cons hl, List.take_succ_cons, List.take_zero, e]
def big0 : Mm := Mm.new 4194304
theorem big0_len : big0.B.length = 4194304 := by unfold big0 Mm.new; exact List.length_replicate
theorem big0_get (i : Nat) (h : i < 4194304) : big0.B[i]? = some 0 := by unfold big0 Mm.new; rw [List.getElem?_replicate, if_pos h]
theorem big0_gm : Gm big0 := Gm.new (by omega) (by omega)
/-- The bytes that are written at the end. -/
def lastL (j : Nat) : List UInt8 := (List.replicate (j + 1) 0).set j 9
theorem lastL_len (j : Nat) : (lastL j).length = j + 1 := by unfold lastL; rw [List.length_set, List.length_replicate]
theorem lastL_get (j : Nat) : (lastL j)[j]? = some 9 := by unfold lastL; rw [List.getElem?_set_self (by rw [List.length_replicate]; omega)]
def big1 (j a : Nat) : Mm := big0.ch a ((j : Int) + 1) (lastL j)
section
variable {j a : Nat} (ha : a + (j + 1) = 4194304)
include ha
theorem b_c1 : big0.chk a ((j : Int) + 1) = 0 := Mm.chk_of (n := j + 1) (by rw [big0_len]; omega)
theorem b_len : (big1 j a).B.length = 4194304 := by
  unfold big1
  rw [Mm.ch_B (b_c1 ha), pat_len (by rw [big0_len, lastL_len]; omega), big0_len]
theorem b_get : (big1 j a).B[4194303]? = some 9 := by
  unfold big1
  rw [Mm.ch_B (b_c1 ha), pat_get (by rw [big0_len, lastL_len]; omega), if_neg (by omega), if_pos (by rw [lastL_len]; omega), show 4194303 - a = j by omega]
  exact lastL_get j
omit ha in
theorem b_gm : Gm (big1 j a) := big0_gm.ch (by show (0 : Nat) < 1000000; decide) (fun _ => by rw [lastL_len]; omega)
theorem b_r1 : (big1 j a).chk 4194303 1 = 0 ∧ (big1 j a).rd 4194303 1 = [9] := by
  have h : (big1 j a).chk 4194303 1 = 0 := Mm.chk_of (n := 1) (by rw [b_len ha]; omega)
  exact ⟨h, Mm.rd_one h (b_get ha)⟩
end
theorem b_r0 : big0.chk 4194303 1 = 0 ∧ big0.rd 4194303 1 = [0] := by
  have h : big0.chk 4194303 1 = 0 := Mm.chk_of (n := 1) (by rw [big0_len]; omega)
  exact ⟨h, Mm.rd_one h (big0_get _ (by omega))⟩
theorem kp_big (w : World) : Calls Try.prog 11 #[.int .i64 1024] w fun e w' => ∃ b d, e = .returned (.tuple #[.pointer (some ⟨b, 0, none⟩), .int .i64 0]) ∧ Kp w b d 4194304 big0 w' :=
  (show Calls Try.prog 11 #[.int .i64 1024] w (NewPost w 4194304) from New_ok 1024 (by decide) (by decide) w).mono fun e w' ⟨b, d, h1, h2, h3⟩ => ⟨b, d, h1, h2, h3⟩
theorem kp_check {w W : World} {b d cap : Nat} {m : Mm} (h : Kp w b d cap m W) (hG : Gm m) (a : Nat) (n k : Int) (ha : a < 18446744073709551616) (hn : n < 9223372036854775808) (e1 : m.chk a n = k) :
    Calls Try.prog 23 #[.pointer (some ⟨b, 0, none⟩), .int .u64 (a : Int), .int .i64 n] W fun e w' => e = .returned (.int .i64 k) ∧ Kp w b d cap m w' := by
  subst e1
  exact (Check_any h.1 hG a n ha hn).mono fun e w' ⟨a1, a2⟩ => ⟨a1, h.later a2⟩
theorem stored_last (W : World) (j : Nat) (hj : j < 5000) : ((W.alloc (.cells (madeCells #[.int .u8 0] (j + 1)) 5)).setCell ⟨W.heap.size, j, none⟩ (.int .u8 9)).ownsRow W.heap.size 5 1 (.slice (some ⟨W.heap.size, 0, none⟩) (j + 1) (j + 1)) (j + 1) (bv (lastL j)) := by
  have h2 := (made_own W (j + 1) (by omega)).stored j (.int .u8 ((9 : UInt8).toNat : Int))
  rw [bv_set] at h2
  exact h2.1
theorem own_chg {S : Nat → Prop} {w w' : World} {base e q n cap : Nat} {xs : List Value} (h : w.ownsRow base e 1 (.slice (some ⟨q, 0, none⟩) n cap) n xs) (hc : Chg S w w') (hS : ¬ S q) : w'.ownsRow base e 1 (.slice (some ⟨q, 0, none⟩) n cap) n xs := by
  refine ⟨h.1, ?_⟩
  rcases h.2 with ⟨e0, _⟩ | ⟨g, c2, cur, e0, h1, h2, h3⟩
  · cases e0
  · have eg : g = q := by simp only [Value.slice.injEq, Option.some.injEq, Addr.mk.injEq] at e0; exact e0.1.1.symm
    exact .inr ⟨g, c2, cur, e0, h1, (hc.block g (Array.getElem?_eq_some_iff.1 h2).1 (by rw [eg]; exact hS)).trans h2, h3⟩
/-- The memory, the bytes of the law, and what was there. -/
structure Bd (w : World) (b d q : Nat) (m : Mm) (j : Nat) (W : World) : Prop where
  k : Kp w b d 4194304 m W
  o : W.ownsRow q 5 1 (.slice (some ⟨q, 0, none⟩) (j + 1) (j + 1)) (j + 1) (bv (lastL j))
  h : q ≠ b ∧ q ≠ d
section
variable {w W W' : World} {b d q j a : Nat} {m : Mm}
theorem Bd.later (h : Bd w b d q m j W) (hb : Below W.heap.size W W') : Bd w b d q m j W' := ⟨h.k.later hb, h.o.kept (row := none) ⟨hb.os, hb.tape, hb.output, hb.size, fun k hk _ => hb.block k hk⟩ (.inr (by simp [Value.ownBlock])), h.h⟩
theorem Bd.byt (h : Bd w b d q m j W) : Byt W (.slice (some ⟨q, 0, none⟩) (j + 1) (j + 1)) (lastL j) := Byt.of_own h.o
theorem bd_write (h : Bd w b d q m j W) (hG : Gm m) (a' : Nat) (k : Int) (m' : Mm) (hj : j < 5000) (ha : a' < 18446744073709551616) (e1 : m.chk a' ((j : Int) + 1) = k) (e2 : m.ch a' ((j : Int) + 1) (lastL j) = m') :
    Calls Try.prog 16 #[.pointer (some ⟨b, 0, none⟩), .int .u64 (a' : Int), .slice (some ⟨q, 0, none⟩) (j + 1) (j + 1)] W fun e w' => e = .returned (.int .i64 k) ∧ Bd w b d q m' j w' ∧ Chg (fun k => k = b ∨ k = d) W w' := by
  subst e1 e2
  have := Write_any h.k.1 hG a' _ (lastL j) ha h.byt (fun _ b' hb' => by
    simp only [Value.ownBlock, Option.some.injEq] at hb'
    show ¬ b' = d
    have := h.h.2
    omega) (by rw [lastL_len]; omega)
  rw [show ((lastL j).length : Int) = (j : Int) + 1 by rw [lastL_len]; omega] at this
  exact this.mono fun e w' ⟨a1, a2, a3⟩ => ⟨a1, ⟨h.k.mv a2 a3, own_chg h.o a3 (fun hs => hs.elim h.h.1 h.h.2), h.h⟩, a3⟩
theorem bd_read (h : Bd w b d q m j W) (hG : Gm m) (l : List UInt8) (e1 : m.chk 4194303 1 = 0) (e2 : m.rd 4194303 1 = l) :
    Calls Try.prog 26 #[.pointer (some ⟨b, 0, none⟩), .int .u64 4194303, .int .i64 1] W fun e w' => (∃ A c, e = .returned (.tuple #[.slice A l.length c, .int .i64 0]) ∧ Byt w' (.slice A l.length c) l ∧ Off (fun k => k = b ∨ k = d) (.slice A l.length c) l) ∧ Below W.heap.size W w' ∧ Bd w b d q m j w' :=
  (kp_read h.k hG 4194303 1 l 0 (by decide) (by decide) e1 e2).mono fun e w' ⟨⟨A, c, a1, a2⟩, a3⟩ => ⟨⟨A, c, a1, Byt.of_own a2, fun _ b' hb' hs => by have := (a2.lt b' hb').1; have h1 := h.k.1.lt; have h2 := h.k.1.dlt; rcases hs with rfl | rfl <;> omega⟩, a3, h.later a3⟩
theorem bd_check (h : Bd w b d q m j W) (hG : Gm m) (a' : Nat) (n k : Int) (ha : a' < 18446744073709551616) (hn : n < 9223372036854775808) (e1 : m.chk a' n = k) :
    Calls Try.prog 23 #[.pointer (some ⟨b, 0, none⟩), .int .u64 (a' : Int), .int .i64 n] W fun e w' => e = .returned (.int .i64 k) ∧ Bd w b d q m j w' := by
  subst e1
  exact (Check_any h.k.1 hG a' n ha hn).mono fun e w' ⟨a1, a2⟩ => ⟨a1, h.later a2⟩
theorem bd_size (h : Bd w b d q (big1 j a) j W) (ha : a + (j + 1) = 4194304) : Calls Try.prog 22 #[.pointer (some ⟨b, 0, none⟩)] W fun e w' => e = .returned (.int .i64 4194304) ∧ W = w' := by
  have h1 := Size_any h.k.1
  rw [b_len ha] at h1
  exact h1
end
theorem bounds_in (j : Nat) (hj : j < 5000) (w : World) : Calls Try.prog 7 #[.int .i64 ((j : Int) + 1)] w (OkB w) := by
  obtain ⟨a, ha⟩ : ∃ a, a + (j + 1) = 4194304 := ⟨4194303 - j, by omega⟩
  have N0 := Lib.hid kp_big
  have HW := Lib.hid works_any
  have hmk := fun W => make_bytes W (j + 1) (by omega)
  rw [show ((j + 1 : Nat) : Int) = (j : Int) + 1 by omega] at hmk
  have hw1 : IntKind.u64.wrap ((j : Int) + 1) = (j : Int) + 1 := by rw [IntKind.wrap_u64]; omega
  have hw2 : IntKind.u64.wrap ((4194304 : Int) - ((j : Int) + 1)) = (a : Int) := by rw [IntKind.wrap_u64]; omega
  have hw3 : IntKind.u64.wrap ((a : Int) + 1) = (a : Int) + 1 := by rw [IntKind.wrap_u64]; omega
  have g1 : decide ((j : Int) + 1 < 1) = false := decide_eq_false (by omega)
  have g2 : decide ((j : Int) + 1 > 5000) = false := decide_eq_false (by omega)
  have g3 : decide ((5000 : Int) < (j : Int) + 1) = false := decide_eq_false (by omega)
  have hji : (j : Int) < 5000 := by omega
  have HJ := Lib.hid (And.intro hj ha)
  clear hj ha
  go_enter Try.func7, Try.ntmps7
  go_upto_region 6 with (first
    | ((go_at_call 11; with_reducible refine (N0.out _).mono ?_); rintro e w1 ⟨b, d, rfl, hk⟩; have K0 := Lib.hid hk; clear hk N0))
  have hx0 := heap_alloc_new w1 (.cells (madeCells #[.int .u8 0] (j + 1)) 5)
  have hcx : (w1.alloc (.cells (madeCells #[.int .u8 0] (j + 1)) 5)).cell? ⟨w1.heap.size, j, none⟩ = some (.int .u8 0) := by
    have := (made_own w1 (j + 1) (by have := HJ.out.1; omega)).cellAt j (by omega)
    rw [this]
    simp [bv]
  have hfx : (w1.alloc (.cells (madeCells #[.int .u8 0] (j + 1)) 5)).frozen? ⟨w1.heap.size, j, none⟩ = false := frozen_of_row _ _ _ _ 5 hx0
  have hBd : Bd w b d w1.heap.size big0 j ((w1.alloc (.cells (madeCells #[.int .u8 0] (j + 1)) 5)).setCell ⟨w1.heap.size, j, none⟩ (.int .u8 9)) := by
    have hb1 : Below w1.heap.size w1 ((w1.alloc (.cells (madeCells #[.int .u8 0] (j + 1)) 5)).setCell ⟨w1.heap.size, j, none⟩ (.int .u8 9)) := (below_alloc w1 _).setCell (Nat.le_refl _) _
    exact ⟨K0.out.later hb1, stored_last w1 j HJ.out.1, by have := K0.out.1.lt; omega, by have := K0.out.1.dlt; omega⟩
  have HB := Lib.hid hBd
  clear hx0 hBd
  generalize w1.alloc (.cells (madeCells #[.int .u8 0] (j + 1)) 5) = X at *
  generalize w1.heap.size = q at *
  go_upto_region 7 with fail
  have HH := HJ.out
  obtain ⟨hj, ha⟩ := HH
  have R0 := Lib.hid (fun W (h : Bd w b d q big0 j W) => bd_read h big0_gm [0] b_r0.1 b_r0.2)
  have W1 := Lib.hid (fun W (h : Bd w b d q big0 j W) => bd_write h big0_gm a 0 (big1 j a) hj (by omega) (b_c1 ha) rfl)
  have R1 := Lib.hid (fun W (h : Bd w b d q (big1 j a) j W) => bd_read h b_gm [9] (b_r1 ha).1 (b_r1 ha).2)
  have S1 := Lib.hid (fun W (h : Bd w b d q (big1 j a) j W) => bd_size h ha)
  have W2 := Lib.hid (fun W (h : Bd w b d q (big1 j a) j W) => (show Calls Try.prog 16 #[.pointer (some ⟨b, 0, none⟩), .int .u64 ((a : Int) + 1), .slice (some ⟨q, 0, none⟩) (j + 1) (j + 1)] W fun e w' => e = .returned (.int .i64 3) ∧ Bd w b d q (big1 j a) j w' ∧ Chg (fun k => k = b ∨ k = d) W w' from bd_write h b_gm (a + 1) 3 (big1 j a) hj (by omega) (Mm.chk_bad (by omega) (.inr (by rw [b_len ha]; omega))) (Mm.ch_bad (by rw [Mm.chk_bad (by omega) (.inr (by rw [b_len ha]; omega))]; decide))))
  have C1 := Lib.hid (fun W (h : Bd w b d q (big1 j a) j W) => (show Calls Try.prog 23 #[.pointer (some ⟨b, 0, none⟩), .int .u64 9223372036854775808, .int .i64 ((j : Int) + 1)] W fun e w' => e = .returned (.int .i64 3) ∧ Bd w b d q (big1 j a) j w' from bd_check h b_gm 9223372036854775808 ((j : Int) + 1) 3 (by omega) (by omega) (Mm.chk_bad (by omega) (.inl (by rw [b_len ha]; omega)))))
  have C2 := Lib.hid (fun W (h : Bd w b d q (big1 j a) j W) => (show Calls Try.prog 23 #[.pointer (some ⟨b, 0, none⟩), .int .u64 18446744073709551615, .int .i64 ((j : Int) + 1)] W fun e w' => e = .returned (.int .i64 3) ∧ Bd w b d q (big1 j a) j w' from bd_check h b_gm 18446744073709551615 ((j : Int) + 1) 3 (by omega) (by omega) (Mm.chk_bad (by omega) (.inl (by rw [b_len ha]; omega)))))
  have C3 := Lib.hid (fun W (h : Bd w b d q (big1 j a) j W) => (show Calls Try.prog 23 #[.pointer (some ⟨b, 0, none⟩), .int .u64 4194304, .int .i64 0] W fun e w' => e = .returned (.int .i64 0) ∧ Bd w b d q (big1 j a) j w' from bd_check h b_gm 4194304 0 0 (by omega) (by omega) (Mm.chk_of (n := 0) (by rw [b_len ha]; omega))))
  have C4 := Lib.hid (fun W (h : Bd w b d q (big1 j a) j W) => (show Calls Try.prog 23 #[.pointer (some ⟨b, 0, none⟩), .int .u64 4194305, .int .i64 0] W fun e w' => e = .returned (.int .i64 3) ∧ Bd w b d q (big1 j a) j w' from bd_check h b_gm 4194305 0 3 (by omega) (by omega) (Mm.chk_bad (by omega) (.inl (by rw [b_len ha]; omega)))))
  clear hj ha hcx hfx
  generalize X.setCell ⟨q, j, none⟩ (.int .u8 9) = Y at *
  go_upto_region 10 with (first
    | ((go_at_call 26; with_reducible refine (R0.out _ HB.out).mono ?_); rintro e w3 ⟨⟨A1, c1, rfl, hy, ho⟩, -, hb⟩; have HB3 := Lib.hid hb; have HY1 := Lib.hid (And.intro hy ho); clear hb hy ho)
    | ((go_at_call 16; with_reducible refine (W1.out _ HB3.out).mono ?_); rintro e w4 ⟨rfl, hb, hc⟩; have HB4 := Lib.hid hb; have HY2 := Lib.hid (HY1.out.1.chg hc HY1.out.2); clear hb hc)
    | ((go_at_call 26; with_reducible refine (R1.out _ HB4.out).mono ?_); rintro e w5 ⟨⟨A2, c2, rfl, hy, -⟩, hb0, hb⟩; have HB5 := Lib.hid hb; have r1 : (convert 29 9 (.slice A1 1 c1)).run Try.prog w5 = .ok (.string ⟨#[0]⟩) w5 := run_string (P := Try.prog) 29 9 5 Try.underlying29 Try.underlying5 Try.underlying9 (HY2.out.below hb0); have r2 : (convert 29 9 (.slice A2 1 c2)).run Try.prog w5 = .ok (.string ⟨#[9]⟩) w5 := run_string (P := Try.prog) 29 9 5 Try.underlying29 Try.underlying5 Try.underlying9 hy; clear hb hy hb0))
  simp only [List.append]
  go_wp2_with (first
    | ((go_at_call 13; with_reducible refine (num_any _ _).mono ?_); rintro e w' ⟨rfl, rfl⟩)
    | ((go_at_call 22; with_reducible refine (S1.out _ HB5.out).mono ?_); rintro e w' ⟨rfl, rfl⟩)
    | ((go_at_call 16; with_reducible refine (W2.out _ HB5.out).mono ?_); rintro e w6 ⟨rfl, hb, -⟩; have HB6 := Lib.hid hb; clear hb)
    | ((go_at_call 23; with_reducible refine (C1.out _ HB6.out).mono ?_); rintro e w7 ⟨rfl, hb⟩; have HB7 := Lib.hid hb; clear hb)
    | ((go_at_call 23; with_reducible refine (C2.out _ HB7.out).mono ?_); rintro e w8 ⟨rfl, hb⟩; have HB8 := Lib.hid hb; clear hb)
    | ((go_at_call 23; with_reducible refine (C3.out _ HB8.out).mono ?_); rintro e w9 ⟨rfl, hb⟩; have HB9 := Lib.hid hb; clear hb)
    | ((go_at_call 23; with_reducible refine (C4.out _ HB9.out).mono ?_); rintro e w10 ⟨rfl, hb⟩; have HB10 := Lib.hid hb; clear hb)
    | ((go_at_call 10; with_reducible refine (HW.out _).mono ?_); rintro e w11 ⟨rfl, hb⟩; have HB11 := Lib.hid (HB10.out.k.bel.trans (hb.mono HB10.out.k.bel.size)); clear hb))
  go_ret
  exact ⟨rfl, HB11.out⟩
theorem bounds_any (n : Int) (w : World) : Calls Try.prog 7 #[.int .i64 n] w (OkB w) := by
  by_cases h : 1 ≤ n ∧ n ≤ 5000
  · obtain ⟨j, rfl⟩ : ∃ j : Nat, n = (j : Int) + 1 := ⟨(n - 1).toNat, by omega⟩
    exact bounds_in j (by omega) w
  · have HW := Lib.hid (works_any w)
    by_cases h1 : 1 ≤ n
    · have g1 : decide (n < 1) = false := decide_eq_false (by omega)
      have g2 : decide (n > 5000) = true := decide_eq_true (by omega)
      clear h
      go_enter Try.func7, Try.ntmps7
      go_wp2_with ((go_at_call 10; with_reducible refine HW.out.mono ?_); rintro e w1 ⟨rfl, hb⟩; have HB := Lib.hid hb; clear hb)
      go_ret
      exact ⟨rfl, HB.out⟩
    · have g1 : decide (n < 1) = true := decide_eq_true (by omega)
      clear h
      go_enter Try.func7, Try.ntmps7
      go_wp2_with ((go_at_call 10; with_reducible refine HW.out.mono ?_); rintro e w1 ⟨rfl, hb⟩; have HB := Lib.hid hb; clear hb)
      go_ret
      exact ⟨rfl, HB.out⟩
end Go.Proofs.Ytmnlkejhhdbhlaa
