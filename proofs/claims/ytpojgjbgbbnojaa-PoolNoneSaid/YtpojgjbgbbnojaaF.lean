/- The contracts of Take, Set, Cold, Spread. Conditions stand in each theorem. -/
import Derived.Test.YtpojgjbgbbnojaaE
namespace Go.Proofs.Ytpojgjbgbbnojaa
open Go.RowKit
set_option linter.unusedVariables false
set_option maxHeartbeats 1000000
set_option maxRecDepth 100000
/-- What lowest finds: none, or the first of the lowest rank. -/
def LwOk (rk : Blk → Int) (inn : Blk → Bool) (l : List Blk) (k : Nat) (p : Nat × Int × Bool) : Prop :=
  (p.2.2 = false → p.1 = 0 ∧ ∀ i (h : i < l.length), i < k → inn l[i] = false) ∧
  (p.2.2 = true → ∃ hj : p.1 < l.length, p.1 < k ∧ inn l[p.1] = true ∧ p.2.1 = rk l[p.1] ∧ ∀ i (h : i < l.length), i < k → inn l[i] = true → rk l[p.1] ≤ rk l[i] ∧ (i < p.1 → rk l[p.1] < rk l[i]))
theorem lw_spec (rk : Blk → Int) (inn : Blk → Bool) (l : List Blk) (k : Nat) (hk : k ≤ l.length) : LwOk rk inn l k (lw rk inn l k) := by
  induction k with
  | zero => exact ⟨fun _ => ⟨rfl, (fun i h h2 => by omega)⟩, (fun h => by cases h)⟩
  | succ k ih =>
    have ih0 := ih (by omega)
    by_cases hc : inn l[k] = true ∧ ((lw rk inn l k).2.2 = false ∨ rk l[k] < (lw rk inn l k).2.1)
    · rw [lw_yes (by omega) hc]
      generalize lw rk inn l k = p at *
      obtain ⟨ih1, ih2⟩ := ih0
      refine ⟨(fun h => by cases h), fun _ => ⟨by dsimp only; omega, by simp, hc.1, rfl, fun i hi hi2 hin => ?_⟩⟩
      dsimp only
      rcases Nat.lt_or_ge i k with hik | hik
      · rcases hc.2 with h0 | h0
        · rw [(ih1 h0).2 i hi hik] at hin; cases hin
        · cases hf : p.2.2
          · rw [(ih1 hf).2 i hi hik] at hin; cases hin
          · obtain ⟨hj, _, h1, h2, h3⟩ := ih2 hf
            have := (h3 i hi hik hin).1
            rw [h2] at h0
            omega
      · have : i = k := by omega
        subst this
        exact ⟨by omega, fun h => by omega⟩
    · rw [lw_no (by omega) hc]
      generalize lw rk inn l k = p at *
      obtain ⟨ih1, ih2⟩ := ih0
      refine ⟨fun h => ⟨(ih1 h).1, fun i hi hi2 => ?_⟩, fun h => ?_⟩
      · rcases Nat.lt_or_ge i k with hik | hik
        · exact (ih1 h).2 i hi hik
        · have : i = k := by omega
          subst this
          cases hx : inn l[i]
          · rfl
          · exact absurd ⟨hx, .inl h⟩ hc
      · obtain ⟨hj, h0, h1, h2, h3⟩ := ih2 h
        refine ⟨hj, by omega, h1, h2, fun i hi hi2 hin => ?_⟩
        rcases Nat.lt_or_ge i k with hik | hik
        · exact h3 i hi hik hin
        · have : i = k := by omega
          subst this
          have : ¬ rk l[i] < p.2.1 := fun hlt => hc ⟨hin, .inr hlt⟩
          rw [h2] at this
          exact ⟨by omega, fun h => by omega⟩
theorem lwc_ok (l : List Blk) (s : Int) : LwOk Blk.er (fun x => eqB x.st s) l l.length (lwc l s) := lw_spec _ _ _ _ (Nat.le_refl _)
theorem lwc_lt {l : List Blk} {s : Int} (h : (lwc l s).2.2 = true) : (lwc l s).1 < l.length := ((lwc_ok l s).2 h).1
theorem lwc_no {l : List Blk} {s : Int} (h : (lwc l s).2.2 = false) : (lwc l s).1 = 0 := ((lwc_ok l s).1 h).1
section
variable {w : World} {base b g cap : Nat} {l : List Blk}
def tkE (l : List Blk) : Int := if (lwc l 1).2.2 = true then 0 else 9
def tkS (l : List Blk) : List Blk := if (lwc l 1).2.2 = true then l.set (lwc l 1).1 ⟨ers l ((lwc l 1).1 : Int), 2⟩ else l
def TkP (w : World) (base b g cap : Nat) (l : List Blk) (e : Ending) (w' : World) : Prop := e = .returned (.tuple #[.int .i64 ((lwc l 1).1 : Int), .int .i64 (tkE l)]) ∧ Mv w base b g cap (tkS l) w'
theorem Take_any (h : Pl w base b g cap l) : Calls Try.prog 17 #[.pointer (some ⟨b, 0, none⟩)] w (TkP w base b g cap l) := by
  have H := Lib.hid h
  have HC := Lib.hid (coldest_any h 1)
  have HM := Lib.hid (fun W (hW : Below w.heap.size w W) => missing_any (h.below hW))
  unfold TkP tkE tkS
  cases hf : (lwc l 1).2.2
  · rw [if_neg (by decide), if_neg (by decide)]
    have HF := Lib.hid hf
    generalize lwc l 1 = p at *
    obtain ⟨j, n, f⟩ := p
    dsimp only at *
    subst hf
    clear h
    go_enter Try.func17, Try.ntmps17
    go_wp2
    refine wp_scope_forward 0 rfl ?_
    go_wp2_with (first
      | ((go_at_call 42; with_reducible refine HC.out.mono ?_); rintro e w1 ⟨rfl, hb⟩; have HB := Lib.hid hb; clear hb)
      | ((go_at_call 41; with_reducible refine (HM.out _ HB.out).mono ?_); rintro e w' ⟨rfl, rfl⟩))
    go_step3
    refine ⟨rfl, ?_⟩
    dsimp only
    go_wp2
    rw [Exit.noGoto_ret]
    go_ret2
    exact ⟨rfl, Mv.later H.out HB.out⟩
  · rw [if_pos rfl, if_pos rfl]
    have hj := lwc_lt hf
    have hok := h.fit.at hj
    unfold Blk.ok at hok
    have HE := Lib.hid (fun W (hW : Below w.heap.size w W) => Erases_any (h.below hW) ((lwc l 1).1 : Int))
    have HP := Lib.hid (fun W (hW : Below w.heap.size w W) => put_later h hW hj 2 (ers l ((lwc l 1).1 : Int)) (by omega) (by omega) (by rw [ers_nat hj]; exact hok.1) (by rw [ers_nat hj]; exact hok.2.1))
    generalize l.set (lwc l 1).1 ⟨ers l ((lwc l 1).1 : Int), 2⟩ = l' at *
    clear hok
    generalize lwc l 1 = p at *
    obtain ⟨j, n, f⟩ := p
    dsimp only at *
    subst hf
    generalize ers l (j : Int) = er at *
    clear h
    go_enter Try.func17, Try.ntmps17
    go_wp2
    go_step3
    go_wp2_with (first
      | ((go_at_call 42; with_reducible refine HC.out.mono ?_); rintro e w1 ⟨rfl, hb⟩; have HB := Lib.hid hb; clear hb)
      | ((go_at_call 41; with_reducible refine (HM.out _ HB.out).mono ?_); rintro e w' ⟨rfl, rfl⟩)
      | ((go_at_call 25; with_reducible refine (HE.out _ HB.out).mono ?_); rintro e w' ⟨rfl, rfl⟩)
      | ((go_at_call 43; with_reducible refine (HP.out _ HB.out).mono ?_); rintro e w3 ⟨⟨v, rfl⟩, hmv⟩; have HMV := Lib.hid hmv; clear hmv))
    go_step3
    go_wp2
    rw [Exit.noGoto_ret]
    go_ret2
    exact ⟨rfl, HMV.out⟩
theorem Cold_any (h : Pl w base b g cap l) : Calls Try.prog 18 #[.pointer (some ⟨b, 0, none⟩)] w (LwP w (lwc l 3)) := by
  have HC := Lib.hid (coldest_any h 3)
  clear h
  generalize lwc l 3 = p at *
  go_enter Try.func18, Try.ntmps18
  go_wp2_with ((go_at_call 42; with_reducible refine HC.out.mono ?_); rintro e w1 ⟨rfl, hb⟩; have HB := Lib.hid hb; clear hb)
  go_ret2
  exact ⟨rfl, HB.out⟩
/-- The lowest and the highest erase count. -/
def lo (l : List Blk) : Nat × Int × Bool := lw Blk.er (fun x => neB x.st 4) l l.length
def hi (l : List Blk) : Nat × Int × Bool := lw (fun x => -x.er) (fun x => neB x.st 4) l l.length
def sprA (l : List Blk) : Int := if (lo l).2.2 = true then ers l ((lo l).1 : Int) else 0
def sprB (l : List Blk) : Int := if (lo l).2.2 = true then ers l ((hi l).1 : Int) else 0
theorem Spread_any (h : Pl w base b g cap l) : Calls Try.prog 19 #[.pointer (some ⟨b, 0, none⟩)] w (Ret w (.tuple #[.int .i64 (sprA l), .int .i64 (sprB l)])) := by
  have HA := Lib.hid (fun W (hW : Below w.heap.size w W) => all_any (h.below hW))
  have HL := Lib.hid (fun W (hW : Below w.heap.size w W) => low45 Blk.er (fun x => neB x.st 4) g cap l W (h.below hW).row h.fit.len (fun k hk W hW => spr1_any l[k].er l[k].st W))
  have HH := Lib.hid (fun W (hW : Below w.heap.size w W) => low47 (fun x => -x.er) (fun x => neB x.st 4) g cap l W (h.below hW).row h.fit.len (fun k hk W hW => by have hok := h.fit.at hk; unfold Blk.ok at hok; exact spr2_any l[k].er l[k].st W hok.1 hok.2.1))
  have HE := Lib.hid (fun W (hW : Below w.heap.size w W) q => Erases_any (h.below hW) q)
  have HR := Lib.hid (Below.refl w.heap.size w)
  unfold sprA sprB
  rw [show lw Blk.er (fun x => neB x.st 4) l l.length = lo l from rfl] at HL
  rw [show lw (fun x => -x.er) (fun x => neB x.st 4) l l.length = hi l from rfl] at HH
  cases hf : (lo l).2.2
  · rw [if_neg (by decide), if_neg (by decide)]
    generalize lo l = p at *
    obtain ⟨j, n, f⟩ := p
    dsimp only at *
    subst hf
    clear h
    go_enter Try.func19, Try.ntmps19
    go_wp2_with (first
      | ((go_at_call 38; with_reducible refine (HA.out _ HR.out).mono ?_); rintro e w' ⟨rfl, rfl⟩)
      | ((go_at_call 44; with_reducible refine (HL.out _ HR.out).mono ?_); rintro e w1 ⟨rfl, hb⟩; have HB := Lib.hid hb; clear hb))
    go_ret2
    exact ⟨rfl, HB.out⟩
  · rw [if_pos rfl, if_pos rfl]
    generalize lo l = p at *
    generalize hi l = p2 at *
    obtain ⟨j, n, f⟩ := p
    obtain ⟨j2, n2, f2⟩ := p2
    dsimp only at *
    subst hf
    clear h
    go_enter Try.func19, Try.ntmps19
    go_wp2_with (first
      | ((go_at_call 38; with_reducible refine (HA.out _ HB.out).mono ?_); rintro e w' ⟨rfl, rfl⟩)
      | ((go_at_call 38; with_reducible refine (HA.out _ HR.out).mono ?_); rintro e w' ⟨rfl, rfl⟩)
      | ((go_at_call 44; with_reducible refine (HL.out _ HR.out).mono ?_); rintro e w1 ⟨rfl, hb⟩; have HB := Lib.hid hb; clear hb)
      | ((go_at_call 44; with_reducible refine (HH.out _ HB.out).mono ?_); rintro e w2 ⟨rfl, hb⟩; have HB2 := Lib.hid (HB.out.trans (hb.mono HB.out.size)); clear hb)
      | ((go_at_call 25; with_reducible refine (HE.out _ HB2.out _).mono ?_); rintro e w' ⟨rfl, rfl⟩))
    go_ret2
    exact ⟨rfl, HB2.out⟩
def seE (l : List Blk) (q s er : Int) : Int := if (stB s && erB er) = false then 2 else if hasB l q = false then 3 else 0
def seS (l : List Blk) (q s er : Int) : List Blk := if seE l q s er = 0 then l.set q.toNat ⟨er, s⟩ else l
theorem Set_any (h : Pl w base b g cap l) (q s er : Int) : Calls Try.prog 23 #[.pointer (some ⟨b, 0, none⟩), .int .i64 q, .int .i64 s, .int .i64 er] w (MvP w base b g cap (seS l q s er) (seE l q s er)) := by
  have H := Lib.hid h
  have HS := Lib.hid (isState_any s w)
  have HE := Lib.hid (isErases_any er w)
  unfold seS
  cases hs : stB s
  · have e : seE l q s er = 2 := by unfold seE; rw [hs]; exact if_pos rfl
    rw [e, if_neg (by decide)]
    rw [hs] at HS
    have HR := Lib.hid (refusal_bad h q)
    clear h e hs
    go_enter Try.func23, Try.ntmps23
    go_wp2
    refine wp_scope_forward 0 rfl ?_
    go_wp2_with (first
      | ((go_at_call 52; with_reducible refine HS.out.mono ?_); rintro e w' ⟨rfl, rfl⟩)
      | ((go_at_call 51; with_reducible refine HR.out.mono ?_); rintro e w' ⟨rfl, rfl⟩))
    go_step3
    refine ⟨rfl, ?_⟩
    dsimp only
    go_wp2
    rw [Exit.noGoto_ret]
    go_ret
    exact ⟨rfl, Mv.refl H.out⟩
  · cases he : erB er
    · have e : seE l q s er = 2 := by unfold seE; rw [hs, he]; exact if_pos rfl
      rw [e, if_neg (by decide)]
      rw [hs] at HS
      rw [he] at HE
      have HR := Lib.hid (refusal_bad h q)
      clear h e hs he
      go_enter Try.func23, Try.ntmps23
      go_wp2
      refine wp_scope_forward 0 rfl ?_
      go_wp2_with (first
        | ((go_at_call 52; with_reducible refine HS.out.mono ?_); rintro e w' ⟨rfl, rfl⟩)
        | ((go_at_call 28; with_reducible refine HE.out.mono ?_); rintro e w' ⟨rfl, rfl⟩)
        | ((go_at_call 51; with_reducible refine HR.out.mono ?_); rintro e w' ⟨rfl, rfl⟩))
      go_step3
      refine ⟨rfl, ?_⟩
      dsimp only
      go_wp2
      rw [Exit.noGoto_ret]
      go_ret
      exact ⟨rfl, Mv.refl H.out⟩
    · have hs2 := of_decide_eq_true (show decide (1 ≤ s ∧ s ≤ 4) = true from hs)
      have he2 := of_decide_eq_true (show decide (0 ≤ er ∧ er ≤ 1099511627776) = true from he)
      cases hq : hasB l q
      · have e : seE l q s er = 3 := by unfold seE; rw [hs, he, if_neg (by decide), if_pos hq]
        rw [e, if_neg (by decide)]
        rw [hs] at HS
        rw [he] at HE
        have HR := Lib.hid (refusal_no h hq)
        clear h e hs he hq
        go_enter Try.func23, Try.ntmps23
        go_wp2
        refine wp_scope_forward 0 rfl ?_
        go_wp2_with (first
          | ((go_at_call 52; with_reducible refine HS.out.mono ?_); rintro e w' ⟨rfl, rfl⟩)
          | ((go_at_call 28; with_reducible refine HE.out.mono ?_); rintro e w' ⟨rfl, rfl⟩)
          | ((go_at_call 51; with_reducible refine HR.out.mono ?_); rintro e w' ⟨rfl, rfl⟩))
        go_step3
        refine ⟨rfl, ?_⟩
        dsimp only
        go_wp2
        rw [Exit.noGoto_ret]
        go_ret
        exact ⟨rfl, Mv.refl H.out⟩
      · have e : seE l q s er = 0 := by unfold seE; rw [hs, he, if_neg (by decide), if_neg (by rw [hq]; decide)]
        rw [e, if_pos rfl]
        rw [hs] at HS
        rw [he] at HE
        have HR := Lib.hid (refusal_ok h hq)
        obtain ⟨k, rfl, hk⟩ := hasB_nat hq
        have HP := Lib.hid (put_int h hk s er hs2.1 hs2.2 he2.1 he2.2)
        rw [show ((k : Int)).toNat = k from rfl]
        clear h e hs he hq
        generalize l.set k ⟨er, s⟩ = l' at *
        go_enter Try.func23, Try.ntmps23
        go_wp2
        go_step3
        go_wp2_with (first
          | ((go_at_call 52; with_reducible refine HS.out.mono ?_); rintro e w' ⟨rfl, rfl⟩)
          | ((go_at_call 28; with_reducible refine HE.out.mono ?_); rintro e w' ⟨rfl, rfl⟩)
          | ((go_at_call 51; with_reducible refine HR.out.mono ?_); rintro e w' ⟨rfl, rfl⟩)
          | ((go_at_call 43; with_reducible refine HP.out.mono ?_); rintro e w3 ⟨⟨v, rfl⟩, hmv⟩; have HMV := Lib.hid hmv; clear hmv))
        go_step3
        go_wp2
        rw [Exit.noGoto_ret]
        go_ret
        exact ⟨rfl, HMV.out⟩
end
end Go.Proofs.Ytpojgjbgbbnojaa
