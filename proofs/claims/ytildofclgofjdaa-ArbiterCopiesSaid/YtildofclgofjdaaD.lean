/- The contracts of Add and Remove. Conditions stand in each theorem. -/
import Derived.Test.YtildofclgofjdaaC
namespace Go.Proofs.Ytildofclgofjdaa
open Go.RowKit
set_option linter.unusedVariables false
set_option maxHeartbeats 400000
def addE (L : List (Int × Int)) (q c : Int) : Int := if numB q = false ∨ c < 0 ∨ 3 < c then 2 else if (look L q).isSome then 11 else 0
def addL (L : List (Int × Int)) (q c : Int) : List (Int × Int) := if addE L q c = 0 then ins q c L else L
def remE (L : List (Int × Int)) (q : Int) : Int := if numB q = false then 2 else if (look L q).isSome then 0 else 9
def remL (L : List (Int × Int)) (q : Int) : List (Int × Int) := if remE L q = 0 then del q L else L
def St.with (s : St) (L : List (Int × Int)) : St := { s with L := L }
theorem with_self (s : St) : s.with s.L = s := rfl
theorem addE_bad {L : List (Int × Int)} {q c : Int} (h : numB q = false ∨ c < 0 ∨ 3 < c) : addE L q c = 2 := by unfold addE; rw [if_pos h]
theorem addE_has {L : List (Int × Int)} {q c : Int} (h : ¬ (numB q = false ∨ c < 0 ∨ 3 < c)) (hl : (look L q).isSome = true) : addE L q c = 11 := by unfold addE; rw [if_neg h, if_pos hl]
theorem addE_ok {L : List (Int × Int)} {q c : Int} (h : ¬ (numB q = false ∨ c < 0 ∨ 3 < c)) (hl : (look L q).isSome = false) : addE L q c = 0 := by unfold addE; rw [if_neg h, if_neg (by simp [hl])]
theorem addL_no {L : List (Int × Int)} {q c : Int} (h : addE L q c ≠ 0) : addL L q c = L := by unfold addL; rw [if_neg h]
theorem addL_yes {L : List (Int × Int)} {q c : Int} (h : addE L q c = 0) : addL L q c = ins q c L := by unfold addL; rw [if_pos h]
theorem Srt.add {L : List (Int × Int)} (h : Srt L) (q c : Int) : Srt (addL L q c) := by
  unfold addL
  split
  · rename_i e
    unfold addE at e
    split at e
    · cases e
    · rename_i h1
      split at e
      · cases e
      · rename_i h2
        have hq : numB q = true := by cases hq : numB q; exact absurd (.inl hq) h1; rfl
        unfold numB at hq
        have hq := of_decide_eq_true hq
        refine h.ins hq (by omega) ?_
        cases e : look L q with
        | none => rfl
        | some x => rw [e] at h2; exact absurd rfl h2
  · exact h
theorem Srt.rem {L : List (Int × Int)} (h : Srt L) (q : Int) : Srt (remL L q) := by
  unfold remL
  split
  · exact h.del q
  · exact h
theorem num_i64 {q : Int} (h : numB q = true) : I64 q := by
  unfold numB at h
  have := of_decide_eq_true h
  unfold I64
  omega
/-- What Add and Remove leave. -/
def MapPost (w : World) (b m : Nat) (s : St) (k : Int) (L : List (Int × Int)) (e : Ending) (w' : World) : Prop := e = .returned (.int .i64 k) ∧ Arb w' b m (s.with L) ∧ Chg (· = m) w w'
set_option maxRecDepth 100000 in
theorem Add_any (b m : Nat) (s : St) (w : World) (h : Arb w b m s) (hs : Srt s.L) (q c : Int) :
    Calls Try.prog 16 #[.pointer (some ⟨b, 0, none⟩), .int .i64 q, .int .i64 c] w (MapPost w b m s (addE s.L q c) (addL s.L q c)) := by
  have k5 := h.cMap
  by_cases hbad : numB q = false ∨ c < 0 ∨ 3 < c
  · have e1 := addE_bad (L := s.L) hbad
    have e2 := addL_no (L := s.L) (q := q) (c := c) (by rw [e1]; decide)
    rw [e1, e2]
    have H := Lib.hid h
    clear h e1 e2
    cases hn : numB q
    · clear hbad
      go_enter Try.func16, Try.ntmps16
      go_wp2_with (first
        | ((go_at_call 30; with_reducible refine (missing_not _ m _ k5).mono ?_); rintro e w' ⟨rfl, rfl⟩)
        | ((go_at_call 31; with_reducible refine (isNumber_any _ _).mono ?_); rintro e w' ⟨rfl, rfl⟩))
      go_ret
      exact ⟨rfl, H.out, Chg.refl _ _⟩
    · by_cases h0 : c < 0
      · clear hbad
        go_enter Try.func16, Try.ntmps16
        go_wp2_with (first
          | ((go_at_call 30; with_reducible refine (missing_not _ m _ k5).mono ?_); rintro e w' ⟨rfl, rfl⟩)
          | ((go_at_call 31; with_reducible refine (isNumber_any _ _).mono ?_); rintro e w' ⟨rfl, rfl⟩))
        go_ret
        exact ⟨rfl, H.out, Chg.refl _ _⟩
      · have h3 : 3 < c := by
          rcases hbad with hb | hb | hb
          · rw [hb] at hn; cases hn
          · exact absurd hb h0
          · exact hb
        clear hbad
        go_enter Try.func16, Try.ntmps16
        go_wp2_with (first
          | ((go_at_call 30; with_reducible refine (missing_not _ m _ k5).mono ?_); rintro e w' ⟨rfl, rfl⟩)
          | ((go_at_call 31; with_reducible refine (isNumber_any _ _).mono ?_); rintro e w' ⟨rfl, rfl⟩))
        go_ret
        exact ⟨rfl, H.out, Chg.refl _ _⟩
  · have hn : numB q = true := by cases hn : numB q; exact absurd (.inl hn) hbad; rfl
    have h0 : 0 ≤ c := by rcases Int.lt_or_le c 0 with h | h; exact absurd (.inr (.inl h)) hbad; exact h
    have h3 : c ≤ 3 := by rcases Int.lt_or_le 3 c with h | h; exact absurd (.inr (.inr h)) hbad; exact h
    have hq := num_i64 hn
    have hl := h.map.look_ok hq
    cases hk : (look s.L q).isSome
    · have e1 := addE_ok hbad hk
      have e2 := addL_yes e1
      have hnone : look s.L q = none := by cases e : look s.L q; rfl; rw [e] at hk; cases hk
      obtain ⟨w2, hrun, hmp, hg⟩ := h.map.put (c := c) hq (by unfold I64; omega) (by have := hs.len; unfold maxLen; omega) hnone
      rw [e1, e2]
      rw [hk] at hl
      have H := Lib.hid h
      have H2 := Lib.hid hmp
      have H3 := Lib.hid hg
      clear h e1 e2 hbad hmp hg hq hnone hk
      go_enter Try.func16, Try.ntmps16
      go_wp2_with (first
        | ((go_at_call 30; with_reducible refine (missing_not _ m _ k5).mono ?_); rintro e w' ⟨rfl, rfl⟩)
        | ((go_at_call 31; with_reducible refine (isNumber_any _ _).mono ?_); rintro e w' ⟨rfl, rfl⟩))
      go_ret
      have hc : Chg (· = m) w w2 := (Chg.of_grown H3.out).mono fun i hi => by cases hi; rfl
      exact ⟨rfl, ⟨(hc.block b H.out.lt H.out.ne).trans H.out.blk, H2.out⟩, hc⟩
    · have e1 := addE_has hbad hk
      have e2 := addL_no (L := s.L) (q := q) (c := c) (by rw [e1]; decide)
      rw [e1, e2]
      rw [hk] at hl
      have H := Lib.hid h
      clear h e1 e2 hbad hq hk
      go_enter Try.func16, Try.ntmps16
      go_wp2_with (first
        | ((go_at_call 30; with_reducible refine (missing_not _ m _ k5).mono ?_); rintro e w' ⟨rfl, rfl⟩)
        | ((go_at_call 31; with_reducible refine (isNumber_any _ _).mono ?_); rintro e w' ⟨rfl, rfl⟩))
      go_ret
      exact ⟨rfl, H.out, Chg.refl _ _⟩
theorem Remove_any (b m : Nat) (s : St) (w : World) (h : Arb w b m s) (hs : Srt s.L) (q : Int) :
    Calls Try.prog 21 #[.pointer (some ⟨b, 0, none⟩), .int .i64 q] w (MapPost w b m s (remE s.L q) (remL s.L q)) := by
  have k5 := h.cMap
  cases hn : numB q
  · have e1 : remE s.L q = 2 := by unfold remE; rw [if_pos hn]
    have e2 : remL s.L q = s.L := by unfold remL; rw [if_neg (by rw [e1]; decide)]
    rw [e1, e2]
    have H := Lib.hid h
    clear h e1 e2
    go_enter Try.func21, Try.ntmps21
    go_wp2_with (first
      | ((go_at_call 30; with_reducible refine (missing_not _ m _ k5).mono ?_); rintro e w' ⟨rfl, rfl⟩)
      | ((go_at_call 31; with_reducible refine (isNumber_any _ _).mono ?_); rintro e w' ⟨rfl, rfl⟩))
    go_ret
    exact ⟨rfl, H.out, Chg.refl _ _⟩
  · have hq := num_i64 hn
    have hl := h.map.look_ok hq
    cases hk : (look s.L q).isSome
    · have e1 : remE s.L q = 9 := by unfold remE; rw [if_neg (by simp [hn]), if_neg (by simp [hk])]
      have e2 : remL s.L q = s.L := by unfold remL; rw [if_neg (by rw [e1]; decide)]
      rw [e1, e2]
      rw [hk] at hl
      have H := Lib.hid h
      clear h e1 e2 hq hk
      go_enter Try.func21, Try.ntmps21
      go_wp2_with (first
        | ((go_at_call 30; with_reducible refine (missing_not _ m _ k5).mono ?_); rintro e w' ⟨rfl, rfl⟩)
        | ((go_at_call 31; with_reducible refine (isNumber_any _ _).mono ?_); rintro e w' ⟨rfl, rfl⟩))
      go_ret
      exact ⟨rfl, H.out, Chg.refl _ _⟩
    · have e1 : remE s.L q = 0 := by unfold remE; rw [if_neg (by simp [hn]), if_pos hk]
      have e2 : remL s.L q = del q s.L := by unfold remL; rw [if_pos e1]
      obtain ⟨w2, hrun, hmp, hg⟩ := h.map.del hs hq hk 0
      rw [e1, e2]
      rw [hk] at hl
      have H := Lib.hid h
      have H2 := Lib.hid hmp
      have H3 := Lib.hid hg
      clear h e1 e2 hmp hg hq hk
      go_enter Try.func21, Try.ntmps21
      go_wp2_with (first
        | ((go_at_call 30; with_reducible refine (missing_not _ m _ k5).mono ?_); rintro e w' ⟨rfl, rfl⟩)
        | ((go_at_call 31; with_reducible refine (isNumber_any _ _).mono ?_); rintro e w' ⟨rfl, rfl⟩))
      go_ret
      have hc : Chg (· = m) w w2 := (Chg.of_grown H3.out).mono fun i hi => by cases hi; rfl
      exact ⟨rfl, ⟨(hc.block b H.out.lt H.out.ne).trans H.out.blk, H2.out⟩, hc⟩
end Go.Proofs.Ytildofclgofjdaa
