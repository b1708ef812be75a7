/- The contract of Program. Conditions stand in each theorem. -/
import Derived.Test.YtddejcoagcaidaaM
import Derived.ScopeJumps
import Derived.WalkMore
namespace Go.Proofs.Ytddejcoagcaidaa
open Go.RowKit
set_option linter.unusedVariables false
set_option maxHeartbeats 2000000
set_option maxRecDepth 100000
/-- A scope that jumps forward to one label. -/
theorem wp_scope_forward {P : Program} {c rest : Code} {Q : Exit → Act → World → Prop} {a : Act} {w : World} (l : Nat) (hf : findLabel c l = some rest)
    (h : c.wp P (Exit.jump l (fun a w => rest.wp P (Exit.noGoto Q) a w) Q) a w) : (Code.scope c).wp P Q a w :=
  wp_scope_jumps l (fun a w => rest.wp P (Exit.noGoto Q) a w) (fun _ _ => 0) hf h fun a w hJ => Code.wp_mono (fun e a w hq => by cases e <;> first | exact hq | exact hq.elim) hJ
/-- Are the arguments of Program valid? -/
def Dev.okB (s : Dev) (q p : Int) (x y : List UInt8) : Bool := s.hasP q p && (decide (x.length = s.sz) && decide (y.length = 64))
def Dev.prE (s : Dev) (q p : Int) (x y : List UInt8) : Int := if s.okB q p x y = false then 2 else if s.off = true then 50 else if p ≠ s.nx q then 51 else s.exE 54
def Dev.prS (s : Dev) (q p : Int) (x y : List UInt8) : Dev := if s.okB q p x y = true ∧ s.off = false ∧ p = s.nx q then s.exS q.toNat (s.pT q.toNat x y) (s.pF q.toNat) (s.pS q.toNat x y) else s
theorem Step.refl {w : World} {base b g m : Nat} {V : Nat → Value} {s : Dev} (h : Dv w base b g m V s) : Step w base b g m V s s w := ⟨V, h, Chg.refl _ _, fun _ hk => .inl hk⟩
section
variable {w : World} {base b g m : Nat} {V : Nat → Value} {s : Dev}
theorem refusal_no (h : Dv w base b g m V s) : Calls Try.prog 43 #[.pointer (some ⟨b, 0, none⟩), .bool false] w fun e w' => e = .returned (.int .i64 2) ∧ w = w' := refusal_any h false
theorem refusal_off (h : Dv w base b g m V s) (ho : s.off = true) : Calls Try.prog 43 #[.pointer (some ⟨b, 0, none⟩), .bool true] w fun e w' => e = .returned (.int .i64 50) ∧ w = w' := by
  have := refusal_any h true
  unfold Dev.refE at this
  rw [ho] at this
  exact this
theorem refusal_ok (h : Dv w base b g m V s) (ho : s.off = false) : Calls Try.prog 43 #[.pointer (some ⟨b, 0, none⟩), .bool true] w fun e w' => e = .returned (.int .i64 0) ∧ w = w' := by
  have := refusal_any h true
  unfold Dev.refE at this
  rw [ho] at this
  exact this
end
theorem Program_bad {w : World} {base b g m : Nat} {V : Nat → Value} {s : Dev} (h : Dv w base b g m V s) (hG : Gd s) (q p : Int) {vd vs : Value} {x y : List UInt8} (hd : Byt w vd x) (hs : Byt w vs y) (hk : s.okB q p x y = false) :
    Calls Try.prog 23 #[.pointer (some ⟨b, 0, none⟩), .int .i64 q, .int .i64 p, vd, vs] w fun e w' => e = .returned (.int .i64 2) ∧ w = w' := by
  have c2 := h.c2
  obtain ⟨A0, k0, e0, _⟩ := hd
  obtain ⟨A1, k1, e1, _⟩ := hs
  subst e0
  subst e1
  have H := Lib.hid h
  have HG := Lib.hid hG
  clear h hG
  unfold Dev.okB at hk
  cases hp : s.hasP q p
  · clear hk
    go_enter Try.func23, Try.ntmps23
    go_wp2
    refine wp_scope_forward 0 rfl ?_
    go_wp2_with (first
      | ((go_at_call 44; with_reducible refine (hasPage_any H.out HG.out _ _).mono ?_); rintro e w' ⟨rfl, rfl⟩)
      | ((go_at_call 43; with_reducible refine (refusal_no H.out).mono ?_); rintro e w' ⟨rfl, rfl⟩))
    go_step3
    refine ⟨rfl, ?_⟩
    dsimp only
    go_wp2
    rw [Exit.noGoto_ret]
    go_ret
    exact ⟨rfl, rfl⟩
  · rw [hp, Bool.true_and] at hk
    by_cases hx : x.length = s.sz
    · have hy : ¬ y.length = 64 := by
        intro hy
        rw [decide_eq_true hx, decide_eq_true hy] at hk
        cases hk
      have d1 : decide (x.length = s.sz) = true := decide_eq_true hx
      have d2 : (x.length == s.sz) = true := by simpa using hx
      have d3 : decide (y.length = 64) = false := decide_eq_false hy
      have d4 : (y.length == 64) = false := by simpa using hy
      have d5 : ((x.length : Int) == (s.sz : Int)) = true := by simp; omega
      have d6 : ((y.length : Int) == 64) = false := by simp; omega
      have d7 : decide ((y.length : Int) = 64) = false := decide_eq_false (by omega)
      clear hx hy hk
      go_enter Try.func23, Try.ntmps23
      go_wp2
      refine wp_scope_forward 0 rfl ?_
      go_wp2_with (first
        | ((go_at_call 44; with_reducible refine (hasPage_any H.out HG.out _ _).mono ?_); rintro e w' ⟨rfl, rfl⟩)
        | ((go_at_call 43; with_reducible refine (refusal_no H.out).mono ?_); rintro e w' ⟨rfl, rfl⟩))
      go_step3
      refine ⟨rfl, ?_⟩
      dsimp only
      go_wp2
      rw [Exit.noGoto_ret]
      go_ret
      exact ⟨rfl, rfl⟩
    · have d1 : decide (x.length = s.sz) = false := decide_eq_false hx
      have d2 : (x.length == s.sz) = false := by simpa using hx
      have d5 : ((x.length : Int) == (s.sz : Int)) = false := by simp; omega
      clear hx hk
      go_enter Try.func23, Try.ntmps23
      go_wp2
      refine wp_scope_forward 0 rfl ?_
      go_wp2_with (first
        | ((go_at_call 44; with_reducible refine (hasPage_any H.out HG.out _ _).mono ?_); rintro e w' ⟨rfl, rfl⟩)
        | ((go_at_call 43; with_reducible refine (refusal_no H.out).mono ?_); rintro e w' ⟨rfl, rfl⟩))
      go_step3
      refine ⟨rfl, ?_⟩
      dsimp only
      go_wp2
      rw [Exit.noGoto_ret]
      go_ret
      exact ⟨rfl, rfl⟩
theorem okB_parts {s : Dev} {q p : Int} {x y : List UInt8} (hk : s.okB q p x y = true) : s.hasP q p = true ∧ x.length = s.sz ∧ y.length = 64 := by
  unfold Dev.okB at hk
  rw [Bool.and_eq_true, Bool.and_eq_true] at hk
  exact ⟨hk.1, of_decide_eq_true hk.2.1, of_decide_eq_true hk.2.2⟩
theorem Program_any {w : World} {base b g m : Nat} {V : Nat → Value} {s : Dev} (h : Dv w base b g m V s) (hG : Gd s) (hn : s.n ≤ 1000000000) (q p : Int) {vd vs : Value} {x y : List UInt8} (hd : Byt w vd x) (hs : Byt w vs y) (od : Off (· = b) vd x) (os : Off (· = b) vs y) :
    Calls Try.prog 23 #[.pointer (some ⟨b, 0, none⟩), .int .i64 q, .int .i64 p, vd, vs] w (ExPost w base b g m V s (s.prS q p x y) (s.prE q p x y)) := by
  cases hk : s.okB q p x y
  · have e1 : s.prE q p x y = 2 := if_pos hk
    have e2 : s.prS q p x y = s := if_neg (by rw [hk]; simp)
    rw [e1, e2]
    exact (Program_bad h hG q p hd hs hk).mono fun e w' ⟨he, hw⟩ => ⟨he, by subst hw; exact Step.refl h⟩
  · obtain ⟨hp, hx, hy⟩ := okB_parts hk
    have c2 := h.c2
    have c4 := h.c4
    have H := Lib.hid h
    have HG := Lib.hid hG
    have hsz := hG.sz
    have d2 : (x.length == s.sz) = true := by simpa using hx
    have d1 : decide (x.length = s.sz) = true := decide_eq_true hx
    have d3 : decide (y.length = 64) = true := decide_eq_true hy
    have d4 : (y.length == 64) = true := by simpa using hy
    have d5 : ((x.length : Int) == (s.sz : Int)) = true := by simp; omega
    have d6 : ((y.length : Int) == 64) = true := by simp; omega
    have d7 : decide ((y.length : Int) = 64) = true := decide_eq_true (by omega)
    cases ho : s.off
    · have e1 : s.prE q p x y = if p ≠ s.nx q then 51 else s.exE 54 := by unfold Dev.prE; rw [if_neg (by rw [hk]; simp), if_neg (by rw [ho]; simp)]
      by_cases hpn : p = s.nx q
      · rw [if_neg (by simp [hpn])] at e1
        have e2 : s.prS q p x y = s.exS q.toNat (s.pT q.toNat x y) (s.pF q.toNat) (s.pS q.toNat x y) := if_pos ⟨hk, ho, hpn⟩
        rw [e1, e2]
        obtain ⟨k, j, rfl, rfl, hkk, hj⟩ := hasP_nat hp
        have HE := Lib.hid (program_any h hG hn hkk hd hs od os (by omega) (by omega) (by rw [List.length_append]; omega))
        rw [show ((k : Int)).toNat = k from rfl]
        obtain ⟨A0, k0, e0, _⟩ := hd
        obtain ⟨A1, k1, e1', _⟩ := hs
        subst e0
        subst e1'
        have d8 : ((j : Int) == s.nx (k : Int)) = true := by simpa using hpn
        have d9 : decide ((j : Int) = s.nx (k : Int)) = true := decide_eq_true hpn
        clear od os h hG e1 e2 hx hy hpn hk hn hsz
        generalize s.exS k (s.pT k x y) (s.pF k) (s.pS k x y) = S1 at *
        generalize s.exE 54 = E1 at *
        go_enter Try.func23, Try.ntmps23
        go_wp2
        go_step3
        go_wp2_with (first
          | ((go_at_call 44; with_reducible refine (hasPage_any H.out HG.out _ _).mono ?_); rintro e w' ⟨rfl, rfl⟩)
          | ((go_at_call 43; with_reducible refine (refusal_ok H.out ho).mono ?_); rintro e w' ⟨rfl, rfl⟩)
          | ((go_at_call 28; with_reducible refine (Next_any H.out HG.out _).mono ?_); rintro e w' ⟨rfl, rfl⟩)
          | ((go_at_call 56; with_reducible refine HE.out.mono ?_); rintro e w5 ⟨rfl, hst⟩; have HST := Lib.hid hst; clear hst))
        go_step3
        go_wp2
        rw [Exit.noGoto_ret]
        go_ret
        exact ⟨rfl, HST.out⟩
      · rw [if_pos hpn] at e1
        have e2 : s.prS q p x y = s := if_neg (fun hh => hpn hh.2.2)
        rw [e1, e2]
        obtain ⟨A0, k0, e0, _⟩ := hd
        obtain ⟨A1, k1, e1', _⟩ := hs
        subst e0
        subst e1'
        have d8 : (p == s.nx q) = false := by simpa using hpn
        have d9 : decide (p = s.nx q) = false := decide_eq_false hpn
        clear od os h hG e1 e2 hx hy hpn hk hn hsz
        go_enter Try.func23, Try.ntmps23
        go_wp2
        refine wp_scope_forward 0 rfl ?_
        go_wp2_with (first
          | ((go_at_call 44; with_reducible refine (hasPage_any H.out HG.out _ _).mono ?_); rintro e w' ⟨rfl, rfl⟩)
          | ((go_at_call 43; with_reducible refine (refusal_ok H.out ho).mono ?_); rintro e w' ⟨rfl, rfl⟩)
          | ((go_at_call 28; with_reducible refine (Next_any H.out HG.out _).mono ?_); rintro e w' ⟨rfl, rfl⟩))
        go_step3
        refine ⟨rfl, ?_⟩
        dsimp only
        go_wp2
        rw [Exit.noGoto_ret]
        go_ret
        exact ⟨rfl, Step.refl H.out⟩
    · have e1 : s.prE q p x y = 50 := by unfold Dev.prE; rw [if_neg (by rw [hk]; simp), if_pos ho]
      have e2 : s.prS q p x y = s := if_neg (by rw [ho]; simp)
      rw [e1, e2]
      obtain ⟨A0, k0, e0, _⟩ := hd
      obtain ⟨A1, k1, e1', _⟩ := hs
      subst e0
      subst e1'
      clear od os h hG e1 e2 hx hy hk hn hsz
      go_enter Try.func23, Try.ntmps23
      go_wp2
      refine wp_scope_forward 0 rfl ?_
      go_wp2_with (first
        | ((go_at_call 44; with_reducible refine (hasPage_any H.out HG.out _ _).mono ?_); rintro e w' ⟨rfl, rfl⟩)
        | ((go_at_call 43; with_reducible refine (refusal_off H.out ho).mono ?_); rintro e w' ⟨rfl, rfl⟩))
      go_step3
      refine ⟨rfl, ?_⟩
      dsimp only
      go_wp2
      rw [Exit.noGoto_ret]
      go_ret
      exact ⟨rfl, Step.refl H.out⟩
end Go.Proofs.Ytddejcoagcaidaa
