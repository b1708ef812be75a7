/- The Reader's methods on all their ways. Conditions stand in each theorem. -/
import Derived.Test.YtmolpnhgmdpdmaaDoorWd
namespace Go.Proofs.YtmolpnhgmdpdmaaDoor
open Go.RowKit
set_option linter.unusedVariables false
set_option maxHeartbeats 1000000

/-- The error of a field of size n at position a. -/
def rdE (l : List UInt8) (a : Nat) (n : Int) : Int := if n < 1 ∨ 8 < n then 2 else if (l.length : Int) < a + n then 4 else 0
def rdAllE (l : List UInt8) : Nat → List Int → Int
  | _, [] => 0
  | a, n :: t => if rdE l a n ≠ 0 then rdE l a n else rdAllE l (a + n.toNat) t
theorem rdE_zero {l : List UInt8} {a : Nat} {n : Int} (h : rdE l a n = 0) : 1 ≤ n ∧ n ≤ 8 ∧ a + n.toNat ≤ l.length := by
  unfold rdE at h
  split at h
  · omega
  · split at h
    · omega
    · omega
theorem rdE_cases (l : List UInt8) (a : Nat) (n : Int) : ((n < 1 ∨ 8 < n) ∧ rdE l a n = 2) ∨ (∃ k : Nat, n = k ∧ 1 ≤ k ∧ k ≤ 8 ∧ l.length < a + k ∧ rdE l a n = 4) ∨ (∃ k : Nat, n = k ∧ 1 ≤ k ∧ k ≤ 8 ∧ a + k ≤ l.length ∧ rdE l a n = 0) := by
  unfold rdE
  by_cases h : n < 1 ∨ 8 < n
  · exact .inl ⟨h, if_pos h⟩
  · obtain ⟨k, rfl⟩ := Int.eq_ofNat_of_zero_le (show 0 ≤ n by omega)
    rw [if_neg h]
    by_cases h2 : (l.length : Int) < a + k
    · exact .inr (.inl ⟨k, rfl, by omega, by omega, by omega, if_pos h2⟩)
    · exact .inr (.inr ⟨k, rfl, by omega, by omega, by omega, if_neg h2⟩)
theorem okAll_of {l : List UInt8} : ∀ (ns : List Int) (a : Nat), rdAllE l a ns = 0 → okAll l a ns
  | [], _, _ => trivial
  | n :: t, a, h => by
    unfold rdAllE at h
    by_cases he : rdE l a n = 0
    · rw [if_neg (by simp [he])] at h
      obtain ⟨h1, h2, h3⟩ := rdE_zero he
      exact ⟨h1, h2, h3, okAll_of t _ h⟩
    · rw [if_pos he] at h; exact absurd h he
theorem endp_le {l : List UInt8} : ∀ (ns : List Int) (a : Nat), a ≤ l.length → okAll l a ns → endp a ns ≤ l.length
  | [], _, h, _ => h
  | n :: t, a, _, ⟨_, _, h3, h4⟩ => endp_le t _ h3 h4
theorem field_err (g : Nat) (vd : Value) (l : List UInt8) (a : Nat) (n : Int) (w : World) (h : Rd w g vd l a) (he : rdE l a n ≠ 0) :
    Calls Tryd.prog 64 #[.pointer (some ⟨g, 0, none⟩), .int .i64 n] w (RPost w g vd l a (.tuple #[.int .u64 0, .int .i64 (rdE l a n)])) := by
  rcases rdE_cases l a n with ⟨h1, e⟩ | ⟨k, rfl, h1, h2, h3, e⟩ | ⟨k, rfl, h1, h2, h3, e⟩
  · rw [e]
    refine (field_size g n w h1).mono ?_
    rintro e w' ⟨rfl, rfl⟩
    exact ⟨rfl, h, Chg.refl _ _⟩
  · rw [e]; exact field_short g vd l a k w h h1 h2 h3
  · exact absurd e he
theorem Next_err (g : Nat) (vd : Value) (l : List UInt8) (a : Nat) (n : Int) (w : World) (h : Rd w g vd l a) (he : rdE l a n ≠ 0) :
    Calls Tryd.prog 41 #[.pointer (some ⟨g, 0, none⟩), .int .i64 n] w (RPost w g vd l a (.tuple #[.int .u64 0, .int .i64 (rdE l a n)])) := Next_of g n w _ _ vd l a (field_err g vd l a n w h he)
theorem Next_ok (g : Nat) (vd : Value) (l : List UInt8) (a n : Nat) (w : World) (h : Rd w g vd l a) (h1 : 1 ≤ n) (h8 : n ≤ 8) (hn : a + n ≤ l.length) :
    Calls Tryd.prog 41 #[.pointer (some ⟨g, 0, none⟩), .int .i64 (n : Int)] w (RPost w g vd l (a + n) (.tuple #[.int .u64 (getV ((l.drop a).take n)), .int .i64 0])) := Next_of g n w _ _ vd l _ (field_ok g vd l a n w h h1 h8 hn)
theorem At_any (g : Nat) (vd : Value) (l : List UInt8) (a : Nat) (w : World) (h : Rd w g vd l a) : Calls Tryd.prog 32 #[.pointer (some ⟨g, 0, none⟩)] w fun e w' => e = .returned (.int .i64 (a : Int)) ∧ w = w' := by
  have h1 := h.cell1
  clear h
  go_enter Tryd.func32, Tryd.ntmps32
  go_wp2_with fail
  refine (orEmpty_some g _).mono ?_
  rintro e w' ⟨rfl, rfl⟩
  go_wp2
  go_ret
  exact ⟨rfl, rfl⟩
/-- The error of reading n bytes at position a. -/
def advE (l : List UInt8) (a : Nat) (n : Int) : Int := if n < 0 then 2 else if (l.length : Int) < a + n then 4 else 0
theorem advance_err (g : Nat) (vd : Value) (l : List UInt8) (a : Nat) (n : Int) (w : World) (h : Rd w g vd l a) (he : advE l a n ≠ 0) :
    Calls Tryd.prog 65 #[.pointer (some ⟨g, 0, none⟩), .int .i64 n] w fun e w' => e = .returned (.tuple #[.slice none 0 0, .int .i64 (advE l a n)]) ∧ ∃ q, w' = w.drewN q := by
  unfold advE at he ⊢
  by_cases h0 : n < 0
  · rw [if_pos h0]
    refine (advance_neg g n w h0).mono ?_
    rintro e w' ⟨rfl, rfl⟩
    exact ⟨rfl, 0, rfl⟩
  · rw [if_neg h0] at he ⊢
    by_cases h1 : (l.length : Int) < a + n
    · rw [if_pos h1]
      exact advance_short g vd l a n w h (by omega) h1
    · rw [if_neg h1] at he; exact absurd rfl he
theorem Skip_err (g : Nat) (vd : Value) (l : List UInt8) (a : Nat) (n : Int) (w : World) (h : Rd w g vd l a) (he : advE l a n ≠ 0) :
    Calls Tryd.prog 44 #[.pointer (some ⟨g, 0, none⟩), .int .i64 n] w (RPost w g vd l a (.int .i64 (advE l a n))) := by
  have Hf := Lib.hid (advance_err g vd l a n w h he); have H := Lib.hid h; clear h he
  go_enter Tryd.func44, Tryd.ntmps44
  go_wp2_with fail
  refine (orEmpty_some g _).mono ?_
  rintro e w' ⟨rfl, rfl⟩
  go_wp2_with fail
  refine Hf.out.mono ?_
  rintro e w1 ⟨rfl, q, rfl⟩
  go_wp2
  go_ret
  exact ⟨rfl, H.out.drewN q, chg_drewN _ _ _⟩
theorem Skip_ok (g : Nat) (vd : Value) (l : List UInt8) (a n : Nat) (w : World) (h : Rd w g vd l a) (hn : a + n ≤ l.length) :
    Calls Tryd.prog 44 #[.pointer (some ⟨g, 0, none⟩), .int .i64 (n : Int)] w (RPost w g vd l (a + n) (.int .i64 0)) := by
  have Hf := Lib.hid (advance_ok g vd l a n w h hn); clear h hn
  go_enter Tryd.func44, Tryd.ntmps44
  go_wp2_with fail
  refine (orEmpty_some g _).mono ?_
  rintro e w' ⟨rfl, rfl⟩
  go_wp2_with fail
  refine Hf.out.mono ?_
  rintro e w1 ⟨⟨v, rfl, -⟩, h1, h2⟩
  have H1 := Lib.hid h1; have H2 := Lib.hid h2; clear h1 h2
  go_wp2
  go_ret
  exact ⟨rfl, H1.out, H2.out⟩
/-- What Take leaves: the bytes, an error, the position. -/
def TPost (w : World) (g : Nat) (vd : Value) (l : List UInt8) (a : Nat) (m : List UInt8) (k : Int) (e : Ending) (w' : World) : Prop :=
  (∃ v, e = .returned (.tuple #[v, .int .i64 k]) ∧ Byt w' v m) ∧ Rd w' g vd l a ∧ Chg (· = g) w w'
theorem chg_later {S : Nat → Prop} {w w1 w2 : World} (h : Chg S w w1) (hb : Below w1.heap.size w1 w2) : Chg S w w2 := h.trans (T := fun _ => False) (Chg.of_below hb) (fun i hi _ => hi.elim)
theorem Take_err (g : Nat) (vd : Value) (l : List UInt8) (a : Nat) (n : Int) (w : World) (h : Rd w g vd l a) (he : advE l a n ≠ 0) :
    Calls Tryd.prog 42 #[.pointer (some ⟨g, 0, none⟩), .int .i64 n] w (TPost w g vd l a [] (advE l a n)) := by
  have Hf := Lib.hid (advance_err g vd l a n w h he); have H := Lib.hid h; clear h he
  go_enter Tryd.func42, Tryd.ntmps42
  go_wp2_with fail
  refine (orEmpty_some g _).mono ?_
  rintro e w' ⟨rfl, rfl⟩
  go_wp2_with fail
  refine Hf.out.mono ?_
  rintro e w1 ⟨rfl, q, rfl⟩
  go_wp2_with fail
  refine (Clone_any _ [] _ (Byt.none _) (by decide)).mono ?_
  rintro e w2 ⟨⟨v', rfl, h1⟩, h3⟩
  have H1 := Lib.hid (Byt.of_own h1); have H3 := Lib.hid h3; clear h1 h3
  go_wp2
  go_ret2
  exact ⟨⟨_, rfl, H1.out⟩, (H.out.drewN q).below H3.out, chg_later (chg_drewN _ _ q) H3.out⟩
theorem Take_ok (g : Nat) (vd : Value) (l : List UInt8) (a n : Nat) (w : World) (h : Rd w g vd l a) (hn : a + n ≤ l.length) :
    Calls Tryd.prog 42 #[.pointer (some ⟨g, 0, none⟩), .int .i64 (n : Int)] w (TPost w g vd l (a + n) ((l.drop a).take n) 0) := by
  have Hs := Lib.hid (show ((l.drop a).take n).length ≤ 1099511627776 by have := h.small; rw [List.length_take, List.length_drop]; omega)
  have Hf := Lib.hid (advance_ok g vd l a n w h hn); clear h hn
  go_enter Tryd.func42, Tryd.ntmps42
  go_wp2_with fail
  refine (orEmpty_some g _).mono ?_
  rintro e w' ⟨rfl, rfl⟩
  go_wp2_with fail
  refine Hf.out.mono ?_
  rintro e w1 ⟨⟨v, rfl, hB⟩, hR, hC⟩
  have HB := Lib.hid hB; have HR := Lib.hid hR; have HC := Lib.hid hC; clear hB hR hC
  go_wp2_with fail
  refine (Clone_any v _ _ HB.out Hs.out).mono ?_
  rintro e w2 ⟨⟨v', rfl, h1⟩, h3⟩
  have H1 := Lib.hid (Byt.of_own h1); have H3 := Lib.hid h3; clear h1 h3
  go_wp2
  go_ret2
  exact ⟨⟨_, rfl, H1.out⟩, HR.out.below H3.out, chg_later HC.out H3.out⟩
theorem Zeros_err (g : Nat) (vd : Value) (l : List UInt8) (a : Nat) (n : Int) (w : World) (h : Rd w g vd l a) (he : advE l a n ≠ 0) :
    Calls Tryd.prog 43 #[.pointer (some ⟨g, 0, none⟩), .int .i64 n] w (RPost w g vd l a (.int .i64 (advE l a n))) := by
  have h0 := h.cell0
  have h1 := h.cell1
  obtain ⟨A, c, hvd, -, -⟩ := h.byt
  subst hvd
  have Hf := Lib.hid (advance_err w.heap.size _ l a n _ (h.ahead 95) he); have H := Lib.hid h
  clear h
  obtain ⟨E, hE⟩ : ∃ E, E = advE l a n := ⟨_, rfl⟩
  rw [← hE] at Hf he ⊢
  clear hE
  go_enter Tryd.func43, Tryd.ntmps43
  go_wp2_with fail
  refine (orEmpty_some g _).mono ?_
  rintro e w' ⟨rfl, rfl⟩
  go_wp2_with fail
  refine Hf.out.mono ?_
  rintro e w1 ⟨rfl, q, rfl⟩
  go_wp2
  go_ret
  have hb := below_drewN (alloc_below w (.cells #[.slice A l.length c, .int .i64 (a : Int)] 95)) q
  exact ⟨rfl, H.out.below hb, Chg.of_below hb⟩
end Go.Proofs.YtmolpnhgmdpdmaaDoor
