/- The contracts of coldest, move, Take, Close, Release, Retire, Set, Cold, Spread. Conditions stand in each theorem. -/
import Derived.Test.YtpojgjbgbbnojaaC
import Derived.Test.YtpojgjbgbbnojaaD
import Derived.ScopeJumps
import Derived.WalkMore
namespace Go.Proofs.Ytpojgjbgbbnojaa
open Go.RowKit
set_option linter.unusedVariables false
set_option maxHeartbeats 1000000
set_option maxRecDepth 100000
/-- A scope that jumps forward to one label. -/
theorem wp_scope_forward {P : Program} {c rest : Code} {Q : Exit → Act → World → Prop} {a : Act} {w : World} (l : Nat) (hf : findLabel c l = some rest)
    (h : c.wp P (Exit.jump l (fun a w => rest.wp P (Exit.noGoto Q) a w) Q) a w) : (Code.scope c).wp P Q a w :=
  wp_scope_jumps l (fun a w => rest.wp P (Exit.noGoto Q) a w) (fun _ _ => 0) hf h fun a w hJ => Code.wp_mono (fun e a w hq => by cases e <;> first | exact hq | exact hq.elim) hJ
section
variable {w : World} {base b g cap : Nat} {l : List Blk}
/-- The coldest block of a state. -/
def lwc (l : List Blk) (s : Int) : Nat × Int × Bool := lw Blk.er (fun x => eqB x.st s) l l.length
theorem coldest_any (h : Pl w base b g cap l) (s : Int) : Calls Try.prog 42 #[.pointer (some ⟨b, 0, none⟩), .int .i64 s] w (LwP w (lwc l s)) := by
  have hb := below_alloc w (.cells #[.int .i64 s] 44)
  have H := Lib.hid (h.below hb)
  have hq : (w.alloc (.cells #[.int .i64 s] 44)).cell? ⟨w.heap.size, 0, none⟩ = some (.int .i64 s) := cell_of_row _ w.heap.size 0 _ 44 (0, 0) (heap_alloc_new w _)
  have HL := Lib.hid (low57 Blk.er (fun x => eqB x.st s) g cap l _ H.out.row h.fit.len w.heap.size (fun k hk W hW => cold1_any l[k].er l[k].st s w.heap.size W ((hW.cell (p := ⟨w.heap.size, 0, none⟩) (by simp)).trans hq)))
  have HB := Lib.hid hb
  clear h hb hq
  go_enter Try.func42, Try.ntmps42
  go_wp2_with (first
    | ((go_at_call 38; with_reducible refine (all_any H.out).mono ?_); rintro e w' ⟨rfl, rfl⟩)
    | ((go_at_call 44; with_reducible refine HL.out.mono ?_); rintro e w2 ⟨rfl, hb⟩; have HB2 := Lib.hid (HB.out.trans (hb.mono (by simp))); clear hb))
  go_ret2
  exact ⟨rfl, HB2.out⟩
theorem put_int (h : Pl w base b g cap l) {k : Nat} (hk : k < l.length) (s : Int) (er : Int) (hs1 : 1 ≤ s) (hs4 : s ≤ 4) (he0 : 0 ≤ er) (he1 : er ≤ 1099511627776) :
    Calls Try.prog 43 #[.pointer (some ⟨b, 0, none⟩), .int .i64 (k : Int), .int .i64 s, .int .i64 er] w fun e w' => (∃ v, e = .returned v) ∧ Mv w base b g cap (l.set k ⟨er, s⟩) w' := by
  obtain ⟨n, rfl⟩ : ∃ n : Nat, s = n := ⟨s.toNat, by omega⟩
  exact put_any h hk n er (by omega) (by omega) he0 he1
theorem Mv.refl (h : Pl w base b g cap l) : Mv w base b g cap l w := ⟨h, Chg.refl _ _⟩
theorem Mv.of_below {w1 w2 : World} {l' : List Blk} (h : Mv w1 base b g cap l' w2) (hb : Below w.heap.size w w1) : Mv w base b g cap l' w2 := ⟨h.1, (Chg.of_below hb).also h.2⟩
theorem Mv.later {w1 : World} (h : Pl w base b g cap l) (hb : Below w.heap.size w w1) : Mv w base b g cap l w1 := (Mv.refl (h.below hb)).of_below hb
theorem put_later {W : World} (h : Pl w base b g cap l) (hW : Below w.heap.size w W) {k : Nat} (hk : k < l.length) (s : Int) (er : Int) (hs1 : 1 ≤ s) (hs4 : s ≤ 4) (he0 : 0 ≤ er) (he1 : er ≤ 1099511627776) :
    Calls Try.prog 43 #[.pointer (some ⟨b, 0, none⟩), .int .i64 (k : Int), .int .i64 s, .int .i64 er] W fun e w' => (∃ v, e = .returned v) ∧ Mv w base b g cap (l.set k ⟨er, s⟩) w' :=
  (put_int (h.below hW) hk s er hs1 hs4 he0 he1).mono fun e w' ⟨a1, a2⟩ => ⟨a1, a2.of_below hW⟩
/-- What a call leaves that returns a number and may have changed the pool. -/
def MvP (w : World) (base b g cap : Nat) (l' : List Blk) (k : Int) (e : Ending) (w' : World) : Prop := e = .returned (.int .i64 k) ∧ Mv w base b g cap l' w'
def mvE (may : Blk → Bool) (l : List Blk) (q : Int) : Int := if hasB l q = false then 3 else if (l[q.toNat]?.map may).getD false = true then 0 else 8
def mvS (may : Blk → Bool) (to more : Int) (l : List Blk) (q : Int) : List Blk := if mvE may l q = 0 then l.set q.toNat ⟨ers l q + more, to⟩ else l
theorem mv_no {may : Blk → Bool} {to more : Int} {q : Int} (h : hasB l q = false) : mvE may l q = 3 ∧ mvS may to more l q = l := by
  have e : mvE may l q = 3 := if_pos h
  exact ⟨e, by unfold mvS; rw [e]; exact if_neg (by decide)⟩
theorem mv_may {may : Blk → Bool} {to more : Int} {k : Nat} (hk : k < l.length) (h : may l[k] = false) : mvE may l (k : Int) = 8 ∧ mvS may to more l (k : Int) = l := by
  have e : mvE may l (k : Int) = 8 := by unfold mvE; rw [if_neg (by rw [hasB_of hk]; decide), if_neg (by simp [hk, h])]
  exact ⟨e, by unfold mvS; rw [e]; exact if_neg (by decide)⟩
theorem mv_yes {may : Blk → Bool} {to more : Int} {k : Nat} (hk : k < l.length) (h : may l[k] = true) : mvE may l (k : Int) = 0 ∧ mvS may to more l (k : Int) = l.set k ⟨l[k].er + more, to⟩ := by
  have e : mvE may l (k : Int) = 0 := by unfold mvE; rw [if_neg (by rw [hasB_of hk]; decide), if_pos (by simp [hk, h])]
  exact ⟨e, by unfold mvS; rw [if_pos e, ers_nat hk]; rfl⟩
theorem refusal_no (h : Pl w base b g cap l) {q : Int} (hq : hasB l q = false) : Calls Try.prog 51 #[.pointer (some ⟨b, 0, none⟩), .bool true, .int .i64 q] w fun e w' => e = .returned (.int .i64 3) ∧ w = w' := by
  have := refusal_any h true q
  unfold refE at this
  rw [if_neg (by decide), if_pos hq] at this
  exact this
theorem refusal_ok (h : Pl w base b g cap l) {q : Int} (hq : hasB l q = true) : Calls Try.prog 51 #[.pointer (some ⟨b, 0, none⟩), .bool true, .int .i64 q] w fun e w' => e = .returned (.int .i64 0) ∧ w = w' := by
  have := refusal_any h true q
  unfold refE at this
  rw [if_neg (by decide), if_neg (by rw [hq]; decide)] at this
  exact this
theorem refusal_bad (h : Pl w base b g cap l) (q : Int) : Calls Try.prog 51 #[.pointer (some ⟨b, 0, none⟩), .bool false, .int .i64 q] w fun e w' => e = .returned (.int .i64 2) ∧ w = w' := refusal_any h false q
theorem Erases_at (h : Pl w base b g cap l) {k : Nat} (hk : k < l.length) : Calls Try.prog 25 #[.pointer (some ⟨b, 0, none⟩), .int .i64 (k : Int)] w fun e w' => e = .returned (.int .i64 l[k].er) ∧ w = w' := by
  have := Erases_any h (k : Int)
  rw [ers_nat hk] at this
  exact this
theorem move49 (h : Pl w base b g cap l) (to more : Int) (q : Int) (ht : 1 ≤ to ∧ to ≤ 4) (hm0 : 0 ≤ more) (hm1 : more ≤ 1) (hmax : ∀ k (hk : k < l.length), (fun x : Blk => eqB x.st 2) l[k] = true → l[k].er + more ≤ 1099511627776) :
    Calls Try.prog 48 #[.pointer (some ⟨b, 0, none⟩), .int .i64 q, .int .i64 to, .int .i64 more, .func (.func 49) #[] #[]] w (MvP w base b g cap (mvS (fun x => eqB x.st 2) to more l q) (mvE (fun x => eqB x.st 2) l q)) := by
  have H := Lib.hid h
  have k0 := h.c0
  cases hq : hasB l q
  · obtain ⟨e1, e2⟩ := mv_no (may := fun x => eqB x.st 2) (to := to) (more := more) hq
    rw [e1, e2]
    have HR := Lib.hid (refusal_no h hq)
    clear h hq e1 e2 hmax
    go_enter Try.func48, Try.ntmps48
    go_wp2
    refine wp_scope_forward 0 rfl ?_
    go_wp2_with ((go_at_call 51; with_reducible refine HR.out.mono ?_); rintro e w' ⟨rfl, rfl⟩)
    go_step3
    refine ⟨rfl, ?_⟩
    dsimp only
    go_wp2
    rw [Exit.noGoto_ret]
    go_ret
    exact ⟨rfl, Mv.refl H.out⟩
  · have HR := Lib.hid (refusal_ok h hq)
    obtain ⟨k, rfl, hk⟩ := hasB_nat hq
    obtain ⟨c0, c1⟩ := h.row.at hk
    cases hy : (fun x : Blk => eqB x.st 2) l[k]
    · obtain ⟨e1, e2⟩ := mv_may (may := fun x => eqB x.st 2) (to := to) (more := more) hk hy
      rw [e1, e2]
      have HC := Lib.hid (isOpen_any l[k].er l[k].st w)
      dsimp only at hy
      rw [hy] at HC
      clear h hq e1 e2 hmax hy
      generalize l[k] = x at *
      go_enter Try.func48, Try.ntmps48
      go_wp2
      refine wp_scope_forward 0 rfl ?_
      go_wp2_with (first
        | ((go_at_call 51; with_reducible refine HR.out.mono ?_); rintro e w' ⟨rfl, rfl⟩)
        | ((go_at_call 49; with_reducible refine HC.out.mono ?_); rintro e w2 ⟨rfl, hb⟩; have HB := Lib.hid hb; clear hb))
      go_step3
      refine ⟨rfl, ?_⟩
      dsimp only
      go_wp2
      rw [Exit.noGoto_ret]
      go_ret
      exact ⟨rfl, Mv.later H.out HB.out⟩
    · obtain ⟨e1, e2⟩ := mv_yes (may := fun x => eqB x.st 2) (to := to) (more := more) hk hy
      rw [e1, e2]
      have hmx := hmax k hk hy
      have HC := Lib.hid (isOpen_any l[k].er l[k].st w)
      dsimp only at hy
      rw [hy] at HC
      have hok := h.fit.at hk
      unfold Blk.ok at hok
      have hx0 := hok.1
      have hx1 := hok.2.1
      have HE := Lib.hid (fun W (hW : Below w.heap.size w W) => Erases_at (h.below hW) hk)
      have HP := Lib.hid (fun W (hW : Below w.heap.size w W) => put_later h hW hk to (l[k].er + more) ht.1 ht.2 (by omega) hmx)
      generalize l.set k ⟨l[k].er + more, to⟩ = l' at *
      clear h hq e1 e2 hmax hy hok
      generalize l[k] = x at *
      obtain ⟨er, st⟩ := x
      dsimp only at *
      go_enter Try.func48, Try.ntmps48
      go_wp2
      go_step3
      go_wp2_with (first
        | ((go_at_call 51; with_reducible refine HR.out.mono ?_); rintro e w' ⟨rfl, rfl⟩)
        | ((go_at_call 49; with_reducible refine HC.out.mono ?_); rintro e w2 ⟨rfl, hb⟩; have HB := Lib.hid hb; clear hb)
        | ((go_at_call 25; with_reducible refine (HE.out _ HB.out).mono ?_); rintro e w' ⟨rfl, rfl⟩)
        | ((go_at_call 43; with_reducible refine (HP.out _ HB.out).mono ?_); rintro e w3 ⟨⟨v, rfl⟩, hmv⟩; have HM := Lib.hid hmv; clear hmv))
      go_step3
      go_wp2
      rw [Exit.noGoto_ret]
      go_ret
      exact ⟨rfl, HM.out⟩
theorem move50 (h : Pl w base b g cap l) (to more : Int) (q : Int) (ht : 1 ≤ to ∧ to ≤ 4) (hm0 : 0 ≤ more) (hm1 : more ≤ 1) (hmax : ∀ k (hk : k < l.length), (fun x : Blk => relB x.er x.st) l[k] = true → l[k].er + more ≤ 1099511627776) :
    Calls Try.prog 48 #[.pointer (some ⟨b, 0, none⟩), .int .i64 q, .int .i64 to, .int .i64 more, .func (.func 50) #[] #[]] w (MvP w base b g cap (mvS (fun x => relB x.er x.st) to more l q) (mvE (fun x => relB x.er x.st) l q)) := by
  have H := Lib.hid h
  have k0 := h.c0
  cases hq : hasB l q
  · obtain ⟨e1, e2⟩ := mv_no (may := fun x => relB x.er x.st) (to := to) (more := more) hq
    rw [e1, e2]
    have HR := Lib.hid (refusal_no h hq)
    clear h hq e1 e2 hmax
    go_enter Try.func48, Try.ntmps48
    go_wp2
    refine wp_scope_forward 0 rfl ?_
    go_wp2_with ((go_at_call 51; with_reducible refine HR.out.mono ?_); rintro e w' ⟨rfl, rfl⟩)
    go_step3
    refine ⟨rfl, ?_⟩
    dsimp only
    go_wp2
    rw [Exit.noGoto_ret]
    go_ret
    exact ⟨rfl, Mv.refl H.out⟩
  · have HR := Lib.hid (refusal_ok h hq)
    obtain ⟨k, rfl, hk⟩ := hasB_nat hq
    obtain ⟨c0, c1⟩ := h.row.at hk
    cases hy : (fun x : Blk => relB x.er x.st) l[k]
    · obtain ⟨e1, e2⟩ := mv_may (may := fun x => relB x.er x.st) (to := to) (more := more) hk hy
      rw [e1, e2]
      have HC := Lib.hid (mayRel_any l[k].er l[k].st w)
      dsimp only at hy
      rw [hy] at HC
      clear h hq e1 e2 hmax hy
      generalize l[k] = x at *
      go_enter Try.func48, Try.ntmps48
      go_wp2
      refine wp_scope_forward 0 rfl ?_
      go_wp2_with (first
        | ((go_at_call 51; with_reducible refine HR.out.mono ?_); rintro e w' ⟨rfl, rfl⟩)
        | ((go_at_call 50; with_reducible refine HC.out.mono ?_); rintro e w2 ⟨rfl, hb⟩; have HB := Lib.hid hb; clear hb))
      go_step3
      refine ⟨rfl, ?_⟩
      dsimp only
      go_wp2
      rw [Exit.noGoto_ret]
      go_ret
      exact ⟨rfl, Mv.later H.out HB.out⟩
    · obtain ⟨e1, e2⟩ := mv_yes (may := fun x => relB x.er x.st) (to := to) (more := more) hk hy
      rw [e1, e2]
      have hmx := hmax k hk hy
      have HC := Lib.hid (mayRel_any l[k].er l[k].st w)
      dsimp only at hy
      rw [hy] at HC
      have hok := h.fit.at hk
      unfold Blk.ok at hok
      have hx0 := hok.1
      have hx1 := hok.2.1
      have HE := Lib.hid (fun W (hW : Below w.heap.size w W) => Erases_at (h.below hW) hk)
      have HP := Lib.hid (fun W (hW : Below w.heap.size w W) => put_later h hW hk to (l[k].er + more) ht.1 ht.2 (by omega) hmx)
      generalize l.set k ⟨l[k].er + more, to⟩ = l' at *
      clear h hq e1 e2 hmax hy hok
      generalize l[k] = x at *
      obtain ⟨er, st⟩ := x
      dsimp only at *
      go_enter Try.func48, Try.ntmps48
      go_wp2
      go_step3
      go_wp2_with (first
        | ((go_at_call 51; with_reducible refine HR.out.mono ?_); rintro e w' ⟨rfl, rfl⟩)
        | ((go_at_call 50; with_reducible refine HC.out.mono ?_); rintro e w2 ⟨rfl, hb⟩; have HB := Lib.hid hb; clear hb)
        | ((go_at_call 25; with_reducible refine (HE.out _ HB.out).mono ?_); rintro e w' ⟨rfl, rfl⟩)
        | ((go_at_call 43; with_reducible refine (HP.out _ HB.out).mono ?_); rintro e w3 ⟨⟨v, rfl⟩, hmv⟩; have HM := Lib.hid hmv; clear hmv))
      go_step3
      go_wp2
      rw [Exit.noGoto_ret]
      go_ret
      exact ⟨rfl, HM.out⟩
theorem move46 (h : Pl w base b g cap l) (to more : Int) (q : Int) (ht : 1 ≤ to ∧ to ≤ 4) (hm0 : 0 ≤ more) (hm1 : more ≤ 1) (hmax : ∀ k (hk : k < l.length), (fun x : Blk => neB x.st 4) l[k] = true → l[k].er + more ≤ 1099511627776) :
    Calls Try.prog 48 #[.pointer (some ⟨b, 0, none⟩), .int .i64 q, .int .i64 to, .int .i64 more, .func (.func 46) #[] #[]] w (MvP w base b g cap (mvS (fun x => neB x.st 4) to more l q) (mvE (fun x => neB x.st 4) l q)) := by
  have H := Lib.hid h
  have k0 := h.c0
  cases hq : hasB l q
  · obtain ⟨e1, e2⟩ := mv_no (may := fun x => neB x.st 4) (to := to) (more := more) hq
    rw [e1, e2]
    have HR := Lib.hid (refusal_no h hq)
    clear h hq e1 e2 hmax
    go_enter Try.func48, Try.ntmps48
    go_wp2
    refine wp_scope_forward 0 rfl ?_
    go_wp2_with ((go_at_call 51; with_reducible refine HR.out.mono ?_); rintro e w' ⟨rfl, rfl⟩)
    go_step3
    refine ⟨rfl, ?_⟩
    dsimp only
    go_wp2
    rw [Exit.noGoto_ret]
    go_ret
    exact ⟨rfl, Mv.refl H.out⟩
  · have HR := Lib.hid (refusal_ok h hq)
    obtain ⟨k, rfl, hk⟩ := hasB_nat hq
    obtain ⟨c0, c1⟩ := h.row.at hk
    cases hy : (fun x : Blk => neB x.st 4) l[k]
    · obtain ⟨e1, e2⟩ := mv_may (may := fun x => neB x.st 4) (to := to) (more := more) hk hy
      rw [e1, e2]
      have HC := Lib.hid (usable_any l[k].er l[k].st w)
      dsimp only at hy
      rw [hy] at HC
      clear h hq e1 e2 hmax hy
      generalize l[k] = x at *
      go_enter Try.func48, Try.ntmps48
      go_wp2
      refine wp_scope_forward 0 rfl ?_
      go_wp2_with (first
        | ((go_at_call 51; with_reducible refine HR.out.mono ?_); rintro e w' ⟨rfl, rfl⟩)
        | ((go_at_call 46; with_reducible refine HC.out.mono ?_); rintro e w2 ⟨rfl, hb⟩; have HB := Lib.hid hb; clear hb))
      go_step3
      refine ⟨rfl, ?_⟩
      dsimp only
      go_wp2
      rw [Exit.noGoto_ret]
      go_ret
      exact ⟨rfl, Mv.later H.out HB.out⟩
    · obtain ⟨e1, e2⟩ := mv_yes (may := fun x => neB x.st 4) (to := to) (more := more) hk hy
      rw [e1, e2]
      have hmx := hmax k hk hy
      have HC := Lib.hid (usable_any l[k].er l[k].st w)
      dsimp only at hy
      rw [hy] at HC
      have hok := h.fit.at hk
      unfold Blk.ok at hok
      have hx0 := hok.1
      have hx1 := hok.2.1
      have HE := Lib.hid (fun W (hW : Below w.heap.size w W) => Erases_at (h.below hW) hk)
      have HP := Lib.hid (fun W (hW : Below w.heap.size w W) => put_later h hW hk to (l[k].er + more) ht.1 ht.2 (by omega) hmx)
      generalize l.set k ⟨l[k].er + more, to⟩ = l' at *
      clear h hq e1 e2 hmax hy hok
      generalize l[k] = x at *
      obtain ⟨er, st⟩ := x
      dsimp only at *
      go_enter Try.func48, Try.ntmps48
      go_wp2
      go_step3
      go_wp2_with (first
        | ((go_at_call 51; with_reducible refine HR.out.mono ?_); rintro e w' ⟨rfl, rfl⟩)
        | ((go_at_call 46; with_reducible refine HC.out.mono ?_); rintro e w2 ⟨rfl, hb⟩; have HB := Lib.hid hb; clear hb)
        | ((go_at_call 25; with_reducible refine (HE.out _ HB.out).mono ?_); rintro e w' ⟨rfl, rfl⟩)
        | ((go_at_call 43; with_reducible refine (HP.out _ HB.out).mono ?_); rintro e w3 ⟨⟨v, rfl⟩, hmv⟩; have HM := Lib.hid hmv; clear hmv))
      go_step3
      go_wp2
      rw [Exit.noGoto_ret]
      go_ret
      exact ⟨rfl, HM.out⟩
theorem Close_any (h : Pl w base b g cap l) (q : Int) : Calls Try.prog 20 #[.pointer (some ⟨b, 0, none⟩), .int .i64 q] w (MvP w base b g cap (mvS (fun x => eqB x.st 2) 3 0 l q) (mvE (fun x => eqB x.st 2) l q)) := by
  have HM := Lib.hid (move49 h 3 0 q (by omega) (by omega) (by omega) (fun k hk hy => by have := h.fit.at hk; unfold Blk.ok at this; omega))
  clear h
  go_enter Try.func20, Try.ntmps20
  go_wp2_with ((go_at_call 48; with_reducible refine HM.out.mono ?_); rintro e w2 ⟨rfl, hmv⟩; have HV := Lib.hid hmv; clear hmv)
  go_ret
  exact ⟨rfl, HV.out⟩
theorem Release_any (h : Pl w base b g cap l) (q : Int) : Calls Try.prog 21 #[.pointer (some ⟨b, 0, none⟩), .int .i64 q] w (MvP w base b g cap (mvS (fun x => relB x.er x.st) 1 1 l q) (mvE (fun x => relB x.er x.st) l q)) := by
  have HM := Lib.hid (move50 h 1 1 q (by omega) (by omega) (by omega) (fun k hk hy => by have := h.fit.at hk; unfold Blk.ok at this; (dsimp only at hy; unfold relB at hy; simp at hy; omega)))
  clear h
  go_enter Try.func21, Try.ntmps21
  go_wp2_with ((go_at_call 48; with_reducible refine HM.out.mono ?_); rintro e w2 ⟨rfl, hmv⟩; have HV := Lib.hid hmv; clear hmv)
  go_ret
  exact ⟨rfl, HV.out⟩
theorem Retire_any (h : Pl w base b g cap l) (q : Int) : Calls Try.prog 22 #[.pointer (some ⟨b, 0, none⟩), .int .i64 q] w (MvP w base b g cap (mvS (fun x => neB x.st 4) 4 0 l q) (mvE (fun x => neB x.st 4) l q)) := by
  have HM := Lib.hid (move46 h 4 0 q (by omega) (by omega) (by omega) (fun k hk hy => by have := h.fit.at hk; unfold Blk.ok at this; omega))
  clear h
  go_enter Try.func22, Try.ntmps22
  go_wp2_with ((go_at_call 48; with_reducible refine HM.out.mono ?_); rintro e w2 ⟨rfl, hmv⟩; have HV := Lib.hid hmv; clear hmv)
  go_ret
  exact ⟨rfl, HV.out⟩
end
end Go.Proofs.Ytpojgjbgbbnojaa
