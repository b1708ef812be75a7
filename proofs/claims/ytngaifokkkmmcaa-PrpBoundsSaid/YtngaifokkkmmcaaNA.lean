/- The iterators of numbered: their values come from calls of a closure; a call or a round may raise an error. Conditions stand in each theorem. -/
import Derived.Test.YtngaifokkkmmcaaZ
import Derived.Test.YtngaifokkkmmcaaV
namespace Go.Proofs.Ytngaifokkkmmcaa
open Go.RowKit Go.Shelf
attribute [local go_sem] Oper.semAt_some
set_option linter.unusedVariables false
set_option maxHeartbeats 2000000
set_option maxRecDepth 100000
/-- A call that ends as it should, or raises an error. -/
def EndX (G : Value → World → Prop) (X : List PanicEntry → World → Prop) (e : Ending) (W' : World) : Prop := (∃ v, e = .returned v ∧ G v W') ∨ (∃ c, e = .panicked c ∧ X c W')
theorem num63_in (l0 q1 q2 N g : Nat) (hN : N ≤ 1000) (J : Nat → World → Prop) (M : Nat → Value → World → Prop) (X : List PanicEntry → World → Prop) (W0 : World)
    (hq1 : W0.cell? ⟨q1, 0, none⟩ = some (.int .i64 (N : Int)))
    (hq2 : ∀ k W, J k W → W.cell? ⟨q2, 0, none⟩ = some (.func (.func 48) #[.pointer (some ⟨g, 0, none⟩)] #[]))
    (hP : ∀ k, k < N → ∀ W, J k W → CallsIn Fence.wide 8 Try.prog 48 #[.pointer (some ⟨g, 0, none⟩), .int .i64 (k : Int)] W (EndX (M k) X))
    (hY : ∀ k, k < N → ∀ v W, M k v W → Ynd Try.prog l0 #[.int .i64 (k : Int), v] W fun e W' => (e = .returned (.bool true) ∧ J (k + 1) W') ∨ (∃ c, e = .panicked c ∧ X c W'))
    (h0 : J 0 W0) :
    CallsIn Fence.wide 9 Try.prog 63 #[.func (.yield l0) #[] #[], .pointer (some ⟨q1, 0, none⟩), .pointer (some ⟨q2, 0, none⟩)] W0 (EndX (fun _ => J N) X) := by
  have H0 := Lib.hid h0
  have HQ2 := Lib.hid hq2
  have HP := Lib.hid hP
  have HY := Lib.hid hY
  have hNi : (N : Int) ≤ 1000 := by omega
  clear h0 hq2 hP hY hN
  refine callsIn_of_wp Try.func63 rfl trivial ?_ rfl
  simp only [Try.ntmps63, List.size_toArray, List.length_cons, List.length_nil, Nat.reduceAdd, Nat.reduceSub, Array.replicate_succ, Array.replicate_zero, List.push_toArray, List.append_toArray, List.nil_append, List.cons_append]
  gi_wp2
  refine wpIn_wide.2 (wp_scope_straight ((wpIn_wide (n := 9)).1 (wpIn_seq (wpIn_label ?_))))
  dsimp only [Exit.then]
  gi_wp2
  clear hq1
  gi_loopw [6] (fun i wr => ∃ k : Nat, k ≤ N ∧ i = .int .i64 (k : Int) ∧ Hid (J k wr)) (fun i _ => N - (RowKit.intOf i).toNat)
  case atStart => exact ⟨0, Nat.zero_le _, rfl, H0⟩
  case round =>
    obtain ⟨k, hk, rfl, HJk⟩ := hrel
    by_cases hlt : k < N
    · have c2 := HQ2.out k _ HJk.out
      have HC := Lib.hid (HP.out k hlt _ HJk.out)
      have hlti : (k : Int) < (N : Int) := by omega
      gi_wp2_with fail
      refine ⟨trivial, HC.out.mono ?_⟩
      rintro e W1 (⟨v, rfl, hM⟩ | ⟨c, rfl, hX⟩)
      · obtain ⟨fn, tmps, assign, body, hy, hR⟩ := HY.out k hlt v W1 hM
        have HRR := Lib.hid hR
        clear hR hM c2
        gi_wp2
        refine (RoundIn.deep 8 HRR.out).mono ?_
        rintro e W3 (⟨rfl, hJ3⟩ | ⟨c, rfl, hX⟩)
        · have HJ3 := Lib.hid hJ3
          clear hJ3
          gi_wp2
          go_roundw
          case rel => exact ⟨k + 1, by omega, by go_num, HJ3⟩
          case measure => simp [RowKit.intOf]; omega
        · exact ⟨rfl, .inr ⟨c, rfl, hX⟩⟩
      · exact ⟨rfl, .inr ⟨c, rfl, hX⟩⟩
    · have hkN : k = N := by omega
      have hd : decide ((k : Int) < (N : Int)) = false := decide_eq_false (by omega)
      have hd2 : decide (k < N) = false := decide_eq_false (by omega)
      have HJ2 : Hid (J N wr) := Lib.hid (by rw [← hkN]; exact HJk.out)
      clear hkN hlt
      gi_wp2
      dsimp only [Exit.noGoto]
      go_end0
      exact .inl ⟨_, rfl, HJ2.out⟩
theorem num56_in (l0 q1 q2 N g : Nat) (hN : N ≤ 1000) (J : Nat → World → Prop) (M : Nat → Value → World → Prop) (X : List PanicEntry → World → Prop) (W0 : World)
    (hq1 : W0.cell? ⟨q1, 0, none⟩ = some (.int .i64 (N : Int)))
    (hq2 : ∀ k W, J k W → W.cell? ⟨q2, 0, none⟩ = some (.func (.func 29) #[] #[.pointer (some ⟨g, 0, none⟩)]))
    (hP : ∀ k, k < N → ∀ W, J k W → CallsIn Fence.wide 8 Try.prog 29 #[.int .i64 (k : Int), .pointer (some ⟨g, 0, none⟩)] W (EndX (M k) X))
    (hY : ∀ k, k < N → ∀ v W, M k v W → Ynd Try.prog l0 #[.int .i64 (k : Int), v] W fun e W' => (e = .returned (.bool true) ∧ J (k + 1) W') ∨ (∃ c, e = .panicked c ∧ X c W'))
    (h0 : J 0 W0) :
    CallsIn Fence.wide 9 Try.prog 56 #[.func (.yield l0) #[] #[], .pointer (some ⟨q1, 0, none⟩), .pointer (some ⟨q2, 0, none⟩)] W0 (EndX (fun _ => J N) X) := by
  have H0 := Lib.hid h0
  have HQ2 := Lib.hid hq2
  have HP := Lib.hid hP
  have HY := Lib.hid hY
  have hNi : (N : Int) ≤ 1000 := by omega
  clear h0 hq2 hP hY hN
  refine callsIn_of_wp Try.func56 rfl trivial ?_ rfl
  simp only [Try.ntmps56, List.size_toArray, List.length_cons, List.length_nil, Nat.reduceAdd, Nat.reduceSub, Array.replicate_succ, Array.replicate_zero, List.push_toArray, List.append_toArray, List.nil_append, List.cons_append]
  gi_wp2
  refine wpIn_wide.2 (wp_scope_straight ((wpIn_wide (n := 9)).1 (wpIn_seq (wpIn_label ?_))))
  dsimp only [Exit.then]
  gi_wp2
  clear hq1
  gi_loopw [6] (fun i wr => ∃ k : Nat, k ≤ N ∧ i = .int .i64 (k : Int) ∧ Hid (J k wr)) (fun i _ => N - (RowKit.intOf i).toNat)
  case atStart => exact ⟨0, Nat.zero_le _, rfl, H0⟩
  case round =>
    obtain ⟨k, hk, rfl, HJk⟩ := hrel
    by_cases hlt : k < N
    · have c2 := HQ2.out k _ HJk.out
      have HC := Lib.hid (HP.out k hlt _ HJk.out)
      have hlti : (k : Int) < (N : Int) := by omega
      gi_wp2_with fail
      refine ⟨trivial, HC.out.mono ?_⟩
      rintro e W1 (⟨v, rfl, hM⟩ | ⟨c, rfl, hX⟩)
      · obtain ⟨fn, tmps, assign, body, hy, hR⟩ := HY.out k hlt v W1 hM
        have HRR := Lib.hid hR
        clear hR hM c2
        gi_wp2
        refine (RoundIn.deep 8 HRR.out).mono ?_
        rintro e W3 (⟨rfl, hJ3⟩ | ⟨c, rfl, hX⟩)
        · have HJ3 := Lib.hid hJ3
          clear hJ3
          gi_wp2
          go_roundw
          case rel => exact ⟨k + 1, by omega, by go_num, HJ3⟩
          case measure => simp [RowKit.intOf]; omega
        · exact ⟨rfl, .inr ⟨c, rfl, hX⟩⟩
      · exact ⟨rfl, .inr ⟨c, rfl, hX⟩⟩
    · have hkN : k = N := by omega
      have hd : decide ((k : Int) < (N : Int)) = false := decide_eq_false (by omega)
      have hd2 : decide (k < N) = false := decide_eq_false (by omega)
      have HJ2 : Hid (J N wr) := Lib.hid (by rw [← hkN]; exact HJk.out)
      clear hkN hlt
      gi_wp2
      dsimp only [Exit.noGoto]
      go_end0
      exact .inl ⟨_, rfl, HJ2.out⟩
end Go.Proofs.Ytngaifokkkmmcaa
