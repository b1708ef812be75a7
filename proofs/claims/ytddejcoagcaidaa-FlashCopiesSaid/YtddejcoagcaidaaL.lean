/- The contracts of execute, at the closures of program and of erase. Conditions stand in each theorem. -/
import Derived.Test.YtddejcoagcaidaaK
namespace Go.Proofs.Ytddejcoagcaidaa
open Go.RowKit
set_option linter.unusedVariables false
set_option maxHeartbeats 2000000
set_option maxRecDepth 100000
theorem law : Maps.Keyed Try.prog 3 := Maps.int_keyed Try.underlying3
theorem wf64 {x : Int} (h : -9223372036854775808 ≤ x ∧ x ≤ 9223372036854775807) : (Lit.int .i64 x).wf = true := WalkArith.wf_i64 (by omega)
def I64 (x : Int) : Prop := -9223372036854775808 ≤ x ∧ x ≤ 9223372036854775807
theorem key_of {x : Int} (h : I64 x) : keyOf Try.prog 3 (.int .i64 x) = some (.int .i64 x) := Maps.keyOf_int_mk Try.underlying3 (wf64 h)
theorem zero4 (w : World) : (zeroValue 4).run Try.prog w = .ok (.bool false) w := by kernel_rfl
theorem plain_bool_inv {P : Program} {t : TypeId} (ht : P.underlying t = some .bool) {v : Value} {z : DataW Unit × List MemPlace} (h : plainElem P t v = some z) : ∃ x, v = .bool x ∧ z = (.lit (.bool x), []) := by
  unfold plainElem at h
  rw [ht] at h
  cases v <;> simp at h
  exact ⟨_, rfl, h.symm⟩
theorem Seen.look_at {w : World} {m : Nat} {xs : List Int} (h : Seen w m xs) {q : Int} (hq : I64 q) :
    (Instr.lookup 60 (.map (some m)) (.int .i64 q) false).run Try.prog w = .ok (.bool (xs.contains q)) w := by
  obtain ⟨D, hown, hat⟩ := h
  obtain ⟨v, ps, hrun, hv⟩ := hown.lookup law Try.underlying60 (zero4 w) (plainElem_bool Try.underlying4 false) (key_of hq)
  obtain ⟨x, rfl, hx⟩ := plain_bool_inv Try.underlying4 hv
  have h1 := congrArg Prod.fst hx
  simp only at h1
  rw [hat q] at h1
  simp only [DataW.lit.injEq, Lit.bool.injEq] at h1
  rw [hrun, ← h1]
theorem Seen.put {w : World} {m : Nat} {xs : List Int} (h : Seen w m xs) {q : Int} (hq : I64 q) (hl : xs.length < maxLen) :
    ∃ w', (Instr.mapUpdate 60 (.map (some m)) (.int .i64 q) (.bool true)).run Try.prog w = .ok () w' ∧ Seen w' m (q :: xs) ∧ w.grownBy w' (some m) := by
  obtain ⟨D, hown, hat⟩ := h
  obtain ⟨w', hrun, ho, hg⟩ := hown.update law Try.underlying60 hl (key_of hq) (plainElem_bool Try.underlying4 true)
  refine ⟨w', hrun, ⟨_, ho, fun q' => ?_⟩, hg⟩
  by_cases e : q' = q
  · subst e
    rw [Maps.atKey_put_same (k := .int .i64 q') hown.isMap trivial]
    simp
  · have hne : (Lit.int .i64 q') ≠ .int .i64 q := by simpa using e
    rw [Maps.atKey_put_other hne, hat q']
    have : (q :: xs).contains q' = xs.contains q' := by simp [e]
    rw [this]
/-- The state as an operation begins; as it is interrupted. -/
def Dev.go (s : Dev) : Dev := s.ctl s.po s.pb (s.n + 1) s.off
def Dev.cut (s : Dev) : Dev := s.ctl s.po s.pb (s.n + 1) true
theorem Step.head {w W w' : World} {base b g m : Nat} {V : Nat → Value} {s s1 s' : Dev} (h : Step W base b g m V s1 s' w') (hc : Chg (· = b) w W) (e : s1.nb = s.nb) : Step w base b g m V s s' w' := by
  obtain ⟨V', h1, h2, h3⟩ := h
  have hf : ∀ k, Foot s1 b g m V k → Foot s b g m V k := fun k hk => by unfold Foot at *; rw [e] at hk; exact hk
  exact ⟨V', h1, (hc.mono (fun k hk => .inl hk)).also (h2.mono hf), fun k hk => (h3 k hk).imp (hf k) fun h => Nat.le_trans hc.size h⟩
/-- What execute returns, and the state that it leaves when block i is given other contents. -/
def Dev.exE (s : Dev) (f : Int) : Int := if s.n = s.po then 50 else if s.F.contains s.n then f else 0
def Dev.exS (s : Dev) (i : Nat) (kc kf ks : Bk) : Dev := if s.n = s.po then s.cut.put i kc else if s.F.contains s.n then s.go.put i kf else s.go.put i ks
def ExPost (w : World) (base b g m : Nat) (V : Nat → Value) (s s' : Dev) (k : Int) (e : Ending) (w' : World) : Prop := e = .returned (.int .i64 k) ∧ Step w base b g m V s s' w'

theorem exec_prog {w : World} {base b g m : Nat} {V : Nat → Value} {s : Dev} (h : Dv w base b g m V s) (hG : Gd s) (hn : s.n ≤ 1000000000) {i : Nat} (f : Int) (q1 q2 q3 : Nat) (kc kf ks : Bk)
    (hI : ∀ W, Dv W base b g m V s.cut → Chg (· = b) w W → Calls Try.prog 72 #[.int .i64 s.pb, .pointer (some ⟨q1, 0, none⟩), .pointer (some ⟨q2, 0, none⟩), .pointer (some ⟨q3, 0, none⟩)] W (StepAny W base b g m V s.cut (s.cut.put i kc)))
    (hF : ∀ W, Dv W base b g m V s.go → Chg (· = b) w W → Calls Try.prog 74 #[.pointer (some ⟨q1, 0, none⟩)] W (StepAny W base b g m V s.go (s.go.put i kf)))
    (hS : ∀ W, Dv W base b g m V s.go → Chg (· = b) w W → Calls Try.prog 75 #[.pointer (some ⟨q1, 0, none⟩), .pointer (some ⟨q2, 0, none⟩), .pointer (some ⟨q3, 0, none⟩)] W (StepAny W base b g m V s.go (s.go.put i ks))) :
    Calls Try.prog 68 #[.pointer (some ⟨b, 0, none⟩), .int .i64 f, .func (.func 72) #[] #[.pointer (some ⟨q1, 0, none⟩), .pointer (some ⟨q2, 0, none⟩), .pointer (some ⟨q3, 0, none⟩)], .func (.func 74) #[] #[.pointer (some ⟨q1, 0, none⟩)], .func (.func 75) #[] #[.pointer (some ⟨q1, 0, none⟩), .pointer (some ⟨q2, 0, none⟩), .pointer (some ⟨q3, 0, none⟩)]] w (ExPost w base b g m V s (s.exS i kc kf ks) (s.exE f)) := by
  have k5 := h.c5
  have k6 := h.c6
  have k7 := h.c7
  have k8 := h.c8
  have k9 := h.c9
  have f8 := h.free 8
  have f9 := h.free 9
  have hn0 := hG.n
  have hc1 : Chg (· = b) w (w.setCell ⟨b, 8, none⟩ (.int .i64 (s.n + 1))) := (Chg.refl (· = b) w).setCell rfl _
  have hd1 : Dv (w.setCell ⟨b, 8, none⟩ (.int .i64 (s.n + 1))) base b g m V s.go := h.rehead hc1 (heap_setCell_same _ b 8 _ 64 _ h.blk)
  unfold Dev.exE Dev.exS
  by_cases hp : s.n = s.po
  · have hc2 : Chg (· = b) w ((w.setCell ⟨b, 8, none⟩ (.int .i64 (s.n + 1))).setCell ⟨b, 9, none⟩ (.bool true)) := hc1.setCell rfl _
    have hd2 : Dv ((w.setCell ⟨b, 8, none⟩ (.int .i64 (s.n + 1))).setCell ⟨b, 9, none⟩ (.bool true)) base b g m V s.cut := h.rehead hc2 (heap_setCell_same _ b 9 _ 64 _ (heap_setCell_same _ b 8 _ 64 _ h.blk))
    have HI := Lib.hid (hI _ hd2 hc2)
    have HC2 := Lib.hid hc2
    rw [if_pos hp, if_pos hp]
    have e1 : decide (s.n = s.po) = true := decide_eq_true hp
    have e2 : (s.n == s.po) = true := by simpa using hp
    clear hI hF hS h hG hc1 hd1 hc2 hd2 hp
    go_enter Try.func68, Try.ntmps68
    go_wp2_with ((go_at_call 72; with_reducible refine HI.out.mono ?_); rintro e w2 ⟨⟨v, rfl⟩, hstep⟩; have HSS := Lib.hid (hstep.head HC2.out rfl); clear hstep)
    go_ret
    exact ⟨rfl, HSS.out⟩
  · rw [if_neg hp, if_neg hp]
    have e1 : decide (s.n = s.po) = false := decide_eq_false hp
    have e2 : (s.n == s.po) = false := by simpa using hp
    have hlk := hd1.flt.look_at (q := s.n) (by unfold I64; omega)
    change (Instr.lookup 60 (.map (some m)) (.int .i64 s.n) false).run Try.prog _ = .ok (.bool (s.F.contains s.n)) _ at hlk
    have HF := Lib.hid (hF _ hd1 hc1)
    have HS := Lib.hid (hS _ hd1 hc1)
    have HC1 := Lib.hid hc1
    clear hI hF hS h hG hc1 hd1 hp
    cases hfc : s.F.contains s.n
    · rw [hfc] at hlk
      clear hfc
      go_enter Try.func68, Try.ntmps68
      go_wp2_with ((go_at_call 75; with_reducible refine HS.out.mono ?_); rintro e w2 ⟨⟨v, rfl⟩, hstep⟩; have HSS := Lib.hid (hstep.head HC1.out rfl); clear hstep)
      go_ret
      exact ⟨rfl, HSS.out⟩
    · rw [hfc] at hlk
      clear hfc
      go_enter Try.func68, Try.ntmps68
      go_wp2_with ((go_at_call 74; with_reducible refine HF.out.mono ?_); rintro e w2 ⟨⟨v, rfl⟩, hstep⟩; have HSS := Lib.hid (hstep.head HC1.out rfl); clear hstep)
      go_ret
      exact ⟨rfl, HSS.out⟩

theorem exec_erase {w : World} {base b g m : Nat} {V : Nat → Value} {s : Dev} (h : Dv w base b g m V s) (hG : Gd s) (hn : s.n ≤ 1000000000) {i : Nat} (f : Int) (q1 q2 q3 : Nat) (kc kf ks : Bk)
    (hI : ∀ W, Dv W base b g m V s.cut → Chg (· = b) w W → Calls Try.prog 69 #[.int .i64 s.pb, .pointer (some ⟨q3, 0, none⟩)] W (StepAny W base b g m V s.cut (s.cut.put i kc)))
    (hF : ∀ W, Dv W base b g m V s.go → Chg (· = b) w W → Calls Try.prog 66 #[.pointer (some ⟨q1, 0, none⟩), .pointer (some ⟨q2, 0, none⟩)] W (StepAny W base b g m V s.go (s.go.put i kf)))
    (hS : ∀ W, Dv W base b g m V s.go → Chg (· = b) w W → Calls Try.prog 70 #[.pointer (some ⟨q2, 0, none⟩)] W (StepAny W base b g m V s.go (s.go.put i ks))) :
    Calls Try.prog 68 #[.pointer (some ⟨b, 0, none⟩), .int .i64 f, .func (.func 69) #[] #[.pointer (some ⟨q3, 0, none⟩)], .func (.func 66) #[] #[.pointer (some ⟨q1, 0, none⟩), .pointer (some ⟨q2, 0, none⟩)], .func (.func 70) #[] #[.pointer (some ⟨q2, 0, none⟩)]] w (ExPost w base b g m V s (s.exS i kc kf ks) (s.exE f)) := by
  have k5 := h.c5
  have k6 := h.c6
  have k7 := h.c7
  have k8 := h.c8
  have k9 := h.c9
  have f8 := h.free 8
  have f9 := h.free 9
  have hn0 := hG.n
  have hc1 : Chg (· = b) w (w.setCell ⟨b, 8, none⟩ (.int .i64 (s.n + 1))) := (Chg.refl (· = b) w).setCell rfl _
  have hd1 : Dv (w.setCell ⟨b, 8, none⟩ (.int .i64 (s.n + 1))) base b g m V s.go := h.rehead hc1 (heap_setCell_same _ b 8 _ 64 _ h.blk)
  unfold Dev.exE Dev.exS
  by_cases hp : s.n = s.po
  · have hc2 : Chg (· = b) w ((w.setCell ⟨b, 8, none⟩ (.int .i64 (s.n + 1))).setCell ⟨b, 9, none⟩ (.bool true)) := hc1.setCell rfl _
    have hd2 : Dv ((w.setCell ⟨b, 8, none⟩ (.int .i64 (s.n + 1))).setCell ⟨b, 9, none⟩ (.bool true)) base b g m V s.cut := h.rehead hc2 (heap_setCell_same _ b 9 _ 64 _ (heap_setCell_same _ b 8 _ 64 _ h.blk))
    have HI := Lib.hid (hI _ hd2 hc2)
    have HC2 := Lib.hid hc2
    rw [if_pos hp, if_pos hp]
    have e1 : decide (s.n = s.po) = true := decide_eq_true hp
    have e2 : (s.n == s.po) = true := by simpa using hp
    clear hI hF hS h hG hc1 hd1 hc2 hd2 hp
    go_enter Try.func68, Try.ntmps68
    go_wp2_with ((go_at_call 69; with_reducible refine HI.out.mono ?_); rintro e w2 ⟨⟨v, rfl⟩, hstep⟩; have HSS := Lib.hid (hstep.head HC2.out rfl); clear hstep)
    go_ret
    exact ⟨rfl, HSS.out⟩
  · rw [if_neg hp, if_neg hp]
    have e1 : decide (s.n = s.po) = false := decide_eq_false hp
    have e2 : (s.n == s.po) = false := by simpa using hp
    have hlk := hd1.flt.look_at (q := s.n) (by unfold I64; omega)
    change (Instr.lookup 60 (.map (some m)) (.int .i64 s.n) false).run Try.prog _ = .ok (.bool (s.F.contains s.n)) _ at hlk
    have HF := Lib.hid (hF _ hd1 hc1)
    have HS := Lib.hid (hS _ hd1 hc1)
    have HC1 := Lib.hid hc1
    clear hI hF hS h hG hc1 hd1 hp
    cases hfc : s.F.contains s.n
    · rw [hfc] at hlk
      clear hfc
      go_enter Try.func68, Try.ntmps68
      go_wp2_with ((go_at_call 70; with_reducible refine HS.out.mono ?_); rintro e w2 ⟨⟨v, rfl⟩, hstep⟩; have HSS := Lib.hid (hstep.head HC1.out rfl); clear hstep)
      go_ret
      exact ⟨rfl, HSS.out⟩
    · rw [hfc] at hlk
      clear hfc
      go_enter Try.func68, Try.ntmps68
      go_wp2_with ((go_at_call 66; with_reducible refine HF.out.mono ?_); rintro e w2 ⟨⟨v, rfl⟩, hstep⟩; have HSS := Lib.hid (hstep.head HC1.out rfl); clear hstep)
      go_ret
      exact ⟨rfl, HSS.out⟩
end Go.Proofs.Ytddejcoagcaidaa
