/- The contracts of listed and page. Conditions stand in each theorem. -/
import Derived.Test.YtngaifokkkmmcaaX
namespace Go.Proofs.Ytngaifokkkmmcaa
open Go.RowKit
set_option linter.unusedVariables false
set_option maxHeartbeats 2000000
set_option maxRecDepth 100000
/-- The number that is read, or the error; a number that must be a multiple of u. -/
def rdE (m : Mm) (a : Nat) : Except Int Nat := if a + 8 ≤ m.B.length then .ok (at8 m a) else .error 3
def alE (u x : Nat) : Except Int Nat := if x % u = 0 then .ok x else .error 150
/-- The next address of the lists from a on, of which so many are missing, and where the one behind it is. -/
def lstE (m : Mm) (a missing : Nat) : Except Int (Nat × Nat) :=
  if rm a = 1 ∧ 1 < missing then
    match rdE m a with
    | .error q => .error q
    | .ok x => if x % 4096 = 0 then (match rdE m x with | .error q => .error q | .ok y => .ok (y, x + 8)) else .error 150
  else match rdE m a with | .error q => .error q | .ok y => .ok (y, a + 8)
/-- The address of the page k, and where the next one is. -/
def pgE (m : Mm) (fs sc ct k a : Nat) : Except Int (Nat × Nat) :=
  if k = 0 then (if fs % 4 = 0 then .ok (fs, a) else .error 150)
  else if ct = 2 then (if sc % 4096 = 0 then .ok (sc, a) else .error 150)
  else if k = 1 ∧ ¬ sc % 8 = 0 then .error 150
  else match lstE m (if k = 1 then sc else a) (ct - k) with
    | .error q => .error q
    | .ok (x, a') => if x % 4096 = 0 then .ok (x, a') else .error 150
/-- What a step of the walk leaves. -/
def StP (W : World) (base b d cap : Nat) (m : Mm) (g fs sc ct : Nat) (r : Except Int (Nat × Nat)) (e : Ending) (w' : World) : Prop :=
  ((∃ x a', r = .ok (x, a') ∧ e = .returned (.int .u64 (x : Int)) ∧ Wm w' base b d cap m g fs sc ct a' ∧ x < 18446744073709551616 ∧ a' < 18446744073709551616) ∨ (∃ q, r = .error q ∧ e = Pan q)) ∧ Chg (fun k => k = g) W w'
section
variable {W W' : World} {base b d cap : Nat} {m : Mm} {g fs sc ct at' : Nat}
theorem read_okE (h : Wm W base b d cap m g fs sc ct at') (hG : Gm m) {x : Nat} (hr : rdE m at' = .ok x) : at' + 8 ≤ m.B.length ∧ x < 18446744073709551616 ∧
    Calls Try.prog 72 #[.pointer (some ⟨g, 0, none⟩)] W fun e w' => e = .returned (.int .u64 (x : Int)) ∧ Below W.heap.size W w' := by
  unfold rdE at hr
  split at hr
  · rename_i ha
    obtain rfl : at8 m at' = x := by injection hr
    exact ⟨ha, at8_lt _ _, read_yes h hG ha⟩
  · cases hr
theorem read_noE (h : Wm W base b d cap m g fs sc ct at') (hG : Gm m) (ha2 : at' < 18446744073709551616) {q : Int} (hr : rdE m at' = .error q) : q = 3 ∧
    Calls Try.prog 72 #[.pointer (some ⟨g, 0, none⟩)] W fun e w' => e = Pan 3 ∧ Below W.heap.size W w' := by
  unfold rdE at hr
  split at hr
  · cases hr
  · rename_i ha
    exact ⟨by injection hr with hr; exact hr.symm, read_no h hG ha ha2⟩
theorem listed_direct (h : Wm W base b d cap m g fs sc ct at') (hG : Gm m) (ha : at' < 18446744073709551616) (k : Nat) (hk : k ≤ 1000) (hn : ¬ (rm at' = 1 ∧ 1 < k)) :
    Calls Try.prog 65 #[.pointer (some ⟨g, 0, none⟩), .int .i64 (k : Int)] W (StP W base b d cap m g fs sc ct (lstE m at' k)) := by
  have HR := Lib.hid (room_any at' W ha)
  obtain ⟨r, hr⟩ : ∃ r, r = lstE m at' k := ⟨_, rfl⟩
  rw [← hr]
  unfold lstE at hr
  rw [if_neg hn] at hr
  obtain ⟨-, -, -, -, c4⟩ := h.cells
  have H := Lib.hid h
  have hki : (k : Int) ≤ 1000 := by omega
  cases hrd : rdE m at' with
  | error q =>
    rw [hrd] at hr
    obtain ⟨rfl, hc⟩ := read_noE h hG ha hrd
    have HC := Lib.hid hc
    have HRR := Lib.hid hr
    clear hc hr hrd h hG ha
    by_cases h1 : rm at' = 1
    · have e1 : ((rm at' : Int) == 1) = true := by simp [h1]
      have e1' : (rm at' : Int) = 1 := by omega
      have e2 : decide ((k : Int) > 1) = false := decide_eq_false (by omega)
      have e2' : decide ((1 : Int) < (k : Int)) = false := decide_eq_false (by omega)
      have e2'' : decide (1 < k) = false := decide_eq_false (by omega)
      clear hn h1 hk
      generalize (rm at' : Int) = R at *
      go_enter Try.func65, Try.ntmps65
      go_wp2_with (first
        | ((go_at_call 54; with_reducible refine HR.out.mono ?_); rintro e w' ⟨rfl, rfl⟩)
        | ((go_at_call 72; with_reducible refine HC.out.mono ?_); rintro e w1 ⟨rfl, hb⟩; have HB := Lib.hid hb; clear hb))
      all_goals exact ⟨rfl, .inr ⟨_, HRR.out, rfl⟩, Chg.of_below HB.out⟩
    · have e1 : ((rm at' : Int) == 1) = false := by simp; omega
      clear hn h1 hk
      generalize (rm at' : Int) = R at *
      go_enter Try.func65, Try.ntmps65
      go_wp2_with (first
        | ((go_at_call 54; with_reducible refine HR.out.mono ?_); rintro e w' ⟨rfl, rfl⟩)
        | ((go_at_call 72; with_reducible refine HC.out.mono ?_); rintro e w1 ⟨rfl, hb⟩; have HB := Lib.hid hb; clear hb))
      all_goals exact ⟨rfl, .inr ⟨_, HRR.out, rfl⟩, Chg.of_below HB.out⟩
  | ok x =>
    rw [hrd] at hr
    obtain ⟨ha8, hx, hc⟩ := read_okE h hG hrd
    have HC := Lib.hid hc
    have HRR := Lib.hid hr
    have HX := Lib.hid hx
    have hmx := hG.max
    have e8 : IntKind.u64.wrap ((at' : Int) + 8) = ((at' + 8 : Nat) : Int) := by rw [IntKind.wrap_u64]; omega
    have HA8 := Lib.hid (show at' + 8 < 18446744073709551616 by omega)
    have HE : Hid (∀ W1, Below W.heap.size W W1 → StP W base b d cap m g fs sc ct r (.returned (.int .u64 (x : Int))) (W1.setCell ⟨g, 4, none⟩ (.int .u64 ((at' + 8 : Nat) : Int)))) := Lib.hid fun W1 hb =>
      ⟨.inl ⟨x, at' + 8, HRR.out, rfl, (H.out.below hb).set (at' + 8), HX.out, HA8.out⟩, (Chg.of_below (S := fun k => k = g) hb).setCell (p := ⟨g, 4, none⟩) rfl _⟩
    clear hc hr hrd hG ha hmx ha8 hx
    have cc := fun W1 (hb : Below W.heap.size W W1) => (h.below hb).cells.2.2.2.2
    have ff := fun W1 (hb : Below W.heap.size W W1) => (h.below hb).free 4
    have HCC := Lib.hid cc
    have HFF := Lib.hid ff
    clear h cc ff
    generalize ((at' + 8 : Nat) : Int) = A8 at *
    by_cases h1 : rm at' = 1
    · have e1 : ((rm at' : Int) == 1) = true := by simp [h1]
      have e1' : (rm at' : Int) = 1 := by omega
      have e2 : decide ((k : Int) > 1) = false := decide_eq_false (by omega)
      have e2' : decide ((1 : Int) < (k : Int)) = false := decide_eq_false (by omega)
      have e2'' : decide (1 < k) = false := decide_eq_false (by omega)
      clear hn h1 hk
      generalize (rm at' : Int) = R at *
      go_enter Try.func65, Try.ntmps65
      go_wp2_with (first
        | ((go_at_call 54; with_reducible refine HR.out.mono ?_); rintro e w' ⟨rfl, rfl⟩)
        | ((go_at_call 72; with_reducible refine HC.out.mono ?_); rintro e w1 ⟨rfl, hb⟩; have HB := Lib.hid hb; have d4 := HCC.out w1 hb; have f4 := HFF.out w1 hb; clear hb))
      go_ret
      exact HE.out _ HB.out
    · have e1 : ((rm at' : Int) == 1) = false := by simp; omega
      clear hn h1 hk
      generalize (rm at' : Int) = R at *
      go_enter Try.func65, Try.ntmps65
      go_wp2_with (first
        | ((go_at_call 54; with_reducible refine HR.out.mono ?_); rintro e w' ⟨rfl, rfl⟩)
        | ((go_at_call 72; with_reducible refine HC.out.mono ?_); rintro e w1 ⟨rfl, hb⟩; have HB := Lib.hid hb; have d4 := HCC.out w1 hb; have f4 := HFF.out w1 hb; clear hb))
      go_ret
      exact HE.out _ HB.out
theorem listed_far (h : Wm W base b d cap m g fs sc ct at') (hG : Gm m) (ha : at' < 18446744073709551616) (k : Nat) (hk : k ≤ 1000) (hn : rm at' = 1 ∧ 1 < k) :
    Calls Try.prog 65 #[.pointer (some ⟨g, 0, none⟩), .int .i64 (k : Int)] W (StP W base b d cap m g fs sc ct (lstE m at' k)) := by
  have HR := Lib.hid (room_any at' W ha)
  obtain ⟨r, hr⟩ : ∃ r, r = lstE m at' k := ⟨_, rfl⟩
  rw [← hr]
  unfold lstE at hr
  rw [if_pos hn] at hr
  have H := Lib.hid h
  have hki : (k : Int) ≤ 1000 := by omega
  have e1 : ((rm at' : Int) == 1) = true := by simp [hn.1]
  have e1' : (rm at' : Int) = 1 := by omega
  have e2 : decide ((k : Int) > 1) = true := decide_eq_true (by omega)
  have e2' : decide ((1 : Int) < (k : Int)) = true := decide_eq_true (by omega)
  have e2'' : decide (1 < k) = true := decide_eq_true (by omega)
  obtain ⟨-, -, -, -, c4⟩ := h.cells
  cases hrd : rdE m at' with
  | error q =>
    rw [hrd] at hr
    obtain ⟨rfl, hc⟩ := read_noE h hG ha hrd
    have HC := Lib.hid hc
    have HRR := Lib.hid hr
    clear hc hr hrd h hG ha hn hk
    generalize (rm at' : Int) = R at *
    go_enter Try.func65, Try.ntmps65
    go_wp2_with (first
      | ((go_at_call 54; with_reducible refine HR.out.mono ?_); rintro e w' ⟨rfl, rfl⟩)
      | ((go_at_call 72; with_reducible refine HC.out.mono ?_); rintro e w1 ⟨rfl, hb⟩; have HB := Lib.hid hb; clear hb))
    all_goals exact ⟨rfl, .inr ⟨_, HRR.out, rfl⟩, Chg.of_below HB.out⟩
  | ok x =>
    rw [hrd] at hr
    obtain ⟨ha8, hx, hc⟩ := read_okE h hG hrd
    have HC := Lib.hid hc
    by_cases hal : x % 4096 = 0
    · have HAL := Lib.hid (fun w => aligned_yes 4096 x 4096 rfl w (by decide) hx hal)
      have hr2 : r = (match rdE m x with | .error q => .error q | .ok y => .ok (y, x + 8)) := by rw [hr]; simp [hal]
      have cc := fun W1 (hb : Below W.heap.size W W1) => (h.below hb).cells.2.2.2.2
      have ff := fun W1 (hb : Below W.heap.size W W1) => (h.below hb).free 4
      have HCC := Lib.hid cc
      have HFF := Lib.hid ff
      cases hrd2 : rdE m x with
      | error q =>
        rw [hrd2] at hr2
        have HRR := Lib.hid hr2
        have HC2 : Hid (∀ W1, Below W.heap.size W W1 → Calls Try.prog 72 #[.pointer (some ⟨g, 0, none⟩)] (W1.setCell ⟨g, 4, none⟩ (.int .u64 (x : Int))) fun e w' => e = Pan 3 ∧ q = 3 ∧ Chg (fun k => k = g) W w') := Lib.hid fun W1 hb => by
          obtain ⟨hq, hc2⟩ := read_noE ((H.out.below hb).set x) hG hx hrd2
          exact hc2.mono fun e w' ⟨h1, h2⟩ => ⟨h1, hq, ((Chg.of_below (S := fun k => k = g) hb).setCell (p := ⟨g, 4, none⟩) rfl _).then_below h2⟩
        clear hc hr hr2 hrd hrd2 h hG ha hn hk cc ff hal ha8 hx
        generalize (rm at' : Int) = R at *
        generalize (x : Int) = X at *
        go_enter Try.func65, Try.ntmps65
        go_wp2_with fail
        refine HR.out.mono ?_
        rintro e w' ⟨rfl, rfl⟩
        go_wp2_with fail
        refine HC.out.mono ?_
        rintro e w1 ⟨rfl, hb⟩
        have HB1 := Lib.hid hb
        clear hb
        go_wp2_with fail
        refine (HAL.out _).mono ?_
        rintro e w2 ⟨rfl, hb⟩
        have HB2 := Lib.hid (HB1.out.trans (hb.mono HB1.out.size))
        have d4 := HCC.out w2 HB2.out
        have f4 := HFF.out w2 HB2.out
        have HC3 := Lib.hid (HC2.out w2 HB2.out)
        clear hb
        go_wp2_with ((go_at_call 72; with_reducible refine HC3.out.mono ?_); rintro e w3 ⟨rfl, rfl, hb⟩; have HB3 := Lib.hid hb; clear hb)
        exact ⟨rfl, .inr ⟨_, HRR.out, rfl⟩, HB3.out⟩
      | ok y =>
        rw [hrd2] at hr2
        have HRR := Lib.hid hr2
        have hmx := hG.max
        have hx8 : x + 8 ≤ m.B.length := by
          unfold rdE at hrd2
          split at hrd2
          · assumption
          · cases hrd2
        have e8 : IntKind.u64.wrap ((x : Int) + 8) = ((x + 8 : Nat) : Int) := by rw [IntKind.wrap_u64]; omega
        have HC2 : Hid (∀ W1, Below W.heap.size W W1 → Calls Try.prog 72 #[.pointer (some ⟨g, 0, none⟩)] (W1.setCell ⟨g, 4, none⟩ (.int .u64 (x : Int))) fun e w' => e = .returned (.int .u64 (y : Int)) ∧ w'.cell? ⟨g, 4, none⟩ = some (.int .u64 (x : Int)) ∧ w'.frozen? ⟨g, 4, none⟩ = false ∧ StP W base b d cap m g fs sc ct r (.returned (.int .u64 (y : Int))) (w'.setCell ⟨g, 4, none⟩ (.int .u64 ((x + 8 : Nat) : Int)))) := Lib.hid fun W1 hb => by
          have hw := (H.out.below hb).set x
          obtain ⟨-, hy, hc2⟩ := read_okE hw hG hrd2
          refine hc2.mono fun e w' ⟨h1, h2⟩ => ?_
          have hw2 := hw.below h2
          exact ⟨h1, hw2.cells.2.2.2.2, hw2.free 4, .inl ⟨y, x + 8, HRR.out, rfl, hw2.set (x + 8), hy, by omega⟩, (((Chg.of_below (S := fun k => k = g) hb).setCell (p := ⟨g, 4, none⟩) rfl _).then_below h2).setCell (p := ⟨g, 4, none⟩) rfl _⟩
        clear hc hr hr2 hrd hrd2 h hG ha hn hk cc ff hal ha8 hx hx8 hmx
        generalize (rm at' : Int) = R at *
        generalize ((x + 8 : Nat) : Int) = X8 at *
        generalize (x : Int) = X at *
        go_enter Try.func65, Try.ntmps65
        go_wp2_with fail
        refine HR.out.mono ?_
        rintro e w' ⟨rfl, rfl⟩
        go_wp2_with fail
        refine HC.out.mono ?_
        rintro e w1 ⟨rfl, hb⟩
        have HB1 := Lib.hid hb
        clear hb
        go_wp2_with fail
        refine (HAL.out _).mono ?_
        rintro e w2 ⟨rfl, hb⟩
        have HB2 := Lib.hid (HB1.out.trans (hb.mono HB1.out.size))
        have d4 := HCC.out w2 HB2.out
        have f4 := HFF.out w2 HB2.out
        have HC3 := Lib.hid (HC2.out w2 HB2.out)
        clear hb
        go_wp2_with ((go_at_call 72; with_reducible refine HC3.out.mono ?_); rintro e w3 ⟨rfl, d5, f5, hp⟩; have HP := Lib.hid hp; clear hp)
        go_ret
        exact HP.out
    · have HAL := Lib.hid (fun w => aligned_no 4096 x 4096 rfl w (by decide) hx hal)
      have hr2 : r = .error 150 := by rw [hr]; simp [hal]
      have HRR := Lib.hid hr2
      clear hc hr hr2 hrd h hG ha hn hk hal ha8 hx
      generalize (rm at' : Int) = R at *
      generalize (x : Int) = X at *
      go_enter Try.func65, Try.ntmps65
      go_wp2_with (first
        | ((go_at_call 54; with_reducible refine HR.out.mono ?_); rintro e w' ⟨rfl, rfl⟩)
        | ((go_at_call 72; with_reducible refine HC.out.mono ?_); rintro e w1 ⟨rfl, hb⟩; have HB := Lib.hid hb; clear hb)
        | ((go_at_call 64; with_reducible refine (HAL.out _).mono ?_); rintro e w2 ⟨rfl, hb⟩; have HB2 := Lib.hid (HB.out.trans (hb.mono HB.out.size)); clear hb))
      exact ⟨rfl, .inr ⟨_, HRR.out, rfl⟩, Chg.of_below HB2.out⟩
theorem listed_any (h : Wm W base b d cap m g fs sc ct at') (hG : Gm m) (ha : at' < 18446744073709551616) (k : Nat) (hk : k ≤ 1000) :
    Calls Try.prog 65 #[.pointer (some ⟨g, 0, none⟩), .int .i64 (k : Int)] W (StP W base b d cap m g fs sc ct (lstE m at' k)) := by
  by_cases hn : rm at' = 1 ∧ 1 < k
  · exact listed_far h hG ha k hk hn
  · exact listed_direct h hG ha k hk hn
end
end Go.Proofs.Ytngaifokkkmmcaa
