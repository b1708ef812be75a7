/- What is read lies in rows of its own; the law's state behind started. Conditions stand in each theorem. -/
import Derived.Test.YtddejcoagcaidaaFE
namespace Go.Proofs.Ytddejcoagcaidaa
open Go.RowKit
set_option linter.unusedVariables false
set_option maxHeartbeats 8000000
set_option maxRecDepth 100000
/-- Bytes that lie in new memory. -/
def Fresh2 (w w' : World) (v : Value) (l : List UInt8) : Prop := w'.ownsRow w.heap.size 5 1 v l.length (bv l)
def ReadPost2 (w : World) (s : Dev) (q p : Int) (e : Ending) (w' : World) : Prop := ∃ A1 n1 c1 A2 n2 c2, e = .returned (.tuple #[.slice A1 n1 c1, .slice A2 n2 c2, .int .i64 (s.rdE q p)]) ∧ Fresh2 w w' (.slice A1 n1 c1) (s.rdD q p) ∧ Fresh2 w w' (.slice A2 n2 c2) (s.rdS q p) ∧ Below w.heap.size w w'
theorem Fresh2.nil (w w' : World) : Fresh2 w w' (.slice none 0 0) [] := World.ownsRow_nil _ _ _ _
theorem read2_none {w : World} {s : Dev} {q p k : Int} (he : s.rdE q p = k) (hk : k ≠ 0) : ReadPost2 w s q p (.returned (.tuple #[.slice none 0 0, .slice none 0 0, .int .i64 k])) w := by
  have h1 : s.rdD q p = [] := if_neg (by rw [he]; exact hk)
  have h2 : s.rdS q p = [] := if_neg (by rw [he]; exact hk)
  exact ⟨none, 0, 0, none, 0, 0, by rw [he], by rw [h1]; exact Fresh2.nil _ _, by rw [h2]; exact Fresh2.nil _ _, Below.refl _ _⟩
section
variable {w : World} {base b g m : Nat} {V : Nat → Value} {s : Dev}
theorem Read2_any (h : Dv w base b g m V s) (hG : Gd s) (q p : Int) : Calls Try.prog 18 #[.pointer (some ⟨b, 0, none⟩), .int .i64 q, .int .i64 p] w (ReadPost2 w s q p) := by
  have H := Lib.hid h
  have HG := Lib.hid hG
  have c4 := h.c4
  cases hp : s.hasP q p
  · have HF := Lib.hid (read2_none (w := w) (s := s) (q := q) (p := p) (k := 2) (if_pos hp) (by decide))
    clear h hG
    go_enter Try.func18, Try.ntmps18
    go_wp2
    refine wp_scope_forward 0 rfl ?_
    go_wp2_with (first
      | ((go_at_call 44; with_reducible refine (hasPage_any H.out HG.out _ _).mono ?_); rintro e w' ⟨rfl, rfl⟩)
      | ((go_at_call 43; with_reducible refine (refusal_no H.out).mono ?_); rintro e w' ⟨rfl, rfl⟩))
    go_step3
    refine ⟨rfl, ?_⟩
    dsimp only
    go_wp2
    rw [Exit.noGoto_ret]
    go_ret3
    exact HF.out
  · cases ho : s.off
    · have hE : s.rdE q p = if s.stt q p = 1 then 52 else if s.stt q p = 4 ∨ s.stt q p = 5 then 53 else 0 := by unfold Dev.rdE; rw [if_neg (by rw [hp]; simp), if_neg (by rw [ho]; simp)]
      by_cases h1 : s.stt q p = 1
      · have HF := Lib.hid (read2_none (w := w) (s := s) (q := q) (p := p) (k := 52) (by rw [hE, if_pos h1]) (by decide))
        clear h hG hE
        have HS : Hid (Calls Try.prog 30 #[.pointer (some ⟨b, 0, none⟩), .int .i64 q, .int .i64 p] w fun e w' => e = .returned (.int .i64 1) ∧ w = w') := Lib.hid (by have := State_any H.out HG.out q p; rw [h1] at this; exact this)
        clear h1
        go_enter Try.func18, Try.ntmps18
        go_wp2
        refine wp_scope_forward 0 rfl ?_
        go_wp2_with (first
          | ((go_at_call 44; with_reducible refine (hasPage_any H.out HG.out _ _).mono ?_); rintro e w' ⟨rfl, rfl⟩)
          | ((go_at_call 43; with_reducible refine (refusal_ok H.out ho).mono ?_); rintro e w' ⟨rfl, rfl⟩)
          | ((go_at_call 30; with_reducible refine HS.out.mono ?_); rintro e w' ⟨rfl, rfl⟩))
        go_step3
        refine ⟨rfl, ?_⟩
        dsimp only
        go_wp2
        rw [Exit.noGoto_ret]
        go_ret3
        exact HF.out
      · obtain ⟨k, j, rfl, rfl, hk, hj⟩ := hasP_nat hp
        by_cases hl : j < (s.bk k).pg.length
        · have e1 : s.stt (k : Int) (j : Int) = ((s.bk k).pg[j]).st := by unfold Dev.stt; rw [if_neg (by simp [hp])]; simp [hl]
          have hpa : s.pgAt (k : Int) (j : Int) = (s.bk k).pg[j] := by unfold Dev.pgAt; simp [hl]
          have HPA := Lib.hid hpa
          have hln := hG.ln k hk _ (List.getElem_mem hl)
          obtain ⟨p0, c, dv, sv, hV, q0, q1, q2, hbd, hbs⟩ := h.page hk hl
          obtain ⟨_, h6⟩ := h.gcells hk
          rw [hV] at h6
          rw [if_neg h1] at hE
          have hS := State_any H.out HG.out (k : Int) (j : Int)
          rw [e1] at hS h1 hE
          have hlen : (j : Int) < ((s.bk k).pg.length : Int) := by omega
          generalize (s.bk k).pg[j] = P at *
          rcases hln with ⟨hst, hd, hs⟩ | hst
          · have h45 : ¬ (P.st = 4 ∨ P.st = 5) := by omega
            rw [if_neg h45] at hE
            have hsz := hG.sz
            have HC1 := Lib.hid (Clone_any dv P.d w hbd.1 (by omega) (by omega))
            have HC2 : Hid (∀ W, Below w.heap.size w W → Calls Try.prog 45 #[sv] W fun e w' => (∃ A c, e = .returned (.slice A P.s.length c) ∧ w'.ownsRow W.heap.size 5 1 (.slice A P.s.length c) P.s.length (bv P.s)) ∧ Below W.heap.size W w') := Lib.hid (fun W hW => Clone_any sv P.s W (hbs.1.below hW) (by omega) (by omega))
            have HQ1 := Lib.hid q1
            have HH6 := Lib.hid h6
            obtain ⟨Ad, kd, ed⟩ := byt_form hbd.1
            obtain ⟨As, ks, es⟩ := byt_form hbs.1
            subst ed
            subst es
            have HE := Lib.hid hE
            have HD := Lib.hid (show s.rdD (k : Int) (j : Int) = P.d by unfold Dev.rdD; rw [if_pos hE, hpa])
            have HSS := Lib.hid (show s.rdS (k : Int) (j : Int) = P.s by unfold Dev.rdS; rw [if_pos hE, hpa])
            have HS := Lib.hid hS
            have hcases : P.st = 2 ∨ P.st = 3 := hst
            have hpl := World.block_lt_of_cell? w _ q0
            clear h hG hE hS e1 hpa hV hbd hbs hd hs hsz h45 hst q2
            rcases hcases with h2 | h2
            all_goals
              rw [h2] at HS h1
              go_enter Try.func18, Try.ntmps18
              go_wp2
              go_step3
              go_wp2_with (first
                | ((go_at_call 44; with_reducible refine (hasPage_any H.out HG.out _ _).mono ?_); rintro e w' ⟨rfl, rfl⟩)
                | ((go_at_call 43; with_reducible refine (refusal_ok H.out ho).mono ?_); rintro e w' ⟨rfl, rfl⟩)
                | ((go_at_call 30; with_reducible refine HS.out.mono ?_); rintro e w' ⟨rfl, rfl⟩)
                | ((go_at_call 45; with_reducible refine HC1.out.mono ?_); rintro e w1 ⟨⟨A1, n1, rfl, ho1⟩, hb⟩; have HO1 := Lib.hid ho1; have HB1 := Lib.hid hb; have H1 := Lib.hid (H.out.below hb); have k4 := H1.out.c4; have k6 := (hb.cell (p := ⟨g, k * 2 + 1, none⟩) H.out.glt).trans HH6.out; have k7 := (hb.cell (p := ⟨p0, j * 3 + 1, none⟩) hpl).trans HQ1.out; clear hb ho1)
                | ((go_at_call 45; with_reducible refine (HC2.out _ HB1.out).mono ?_); rintro e w2 ⟨⟨A2, n2, rfl, ho2⟩, hb⟩; have HO2 := Lib.hid ho2; have HB2 := Lib.hid hb; clear hb ho2))
              go_step3
              go_wp2
              rw [Exit.noGoto_ret]
              go_ret3
              refine ⟨_, _, _, _, _, _, by rw [HE.out]; rfl, ?_, ?_, HB1.out.trans (HB2.out.mono HB1.out.size)⟩
              · rw [HD.out]
                exact own_below HO1.out HB2.out
              · rw [HSS.out]
                exact own_base HO2.out HB1.out.size
          · rw [if_pos hst] at hE
            have HF := Lib.hid (read2_none (w := w) (s := s) (q := (k : Int)) (p := (j : Int)) (k := 53) hE (by decide))
            have HS := Lib.hid hS
            have hcases : P.st = 4 ∨ P.st = 5 := hst
            clear h hG hE hS e1 hpa hV hbd hbs hst q0 q1 q2 h6
            rcases hcases with h2 | h2
            all_goals
              rw [h2] at HS h1
              go_enter Try.func18, Try.ntmps18
              go_wp2
              refine wp_scope_forward 0 rfl ?_
              go_wp2_with (first
                | ((go_at_call 44; with_reducible refine (hasPage_any H.out HG.out _ _).mono ?_); rintro e w' ⟨rfl, rfl⟩)
                | ((go_at_call 43; with_reducible refine (refusal_ok H.out ho).mono ?_); rintro e w' ⟨rfl, rfl⟩)
                | ((go_at_call 30; with_reducible refine HS.out.mono ?_); rintro e w' ⟨rfl, rfl⟩))
              go_step3
              refine ⟨rfl, ?_⟩
              dsimp only
              go_wp2
              rw [Exit.noGoto_ret]
              go_ret3
              exact HF.out
        · exfalso
          apply h1
          unfold Dev.stt
          rw [if_neg (by simp [hp])]
          simp [hl]
    · have HF := Lib.hid (read2_none (w := w) (s := s) (q := q) (p := p) (k := 50) (by unfold Dev.rdE; rw [if_neg (by rw [hp]; simp), if_pos ho]) (by decide))
      clear h hG
      go_enter Try.func18, Try.ntmps18
      go_wp2
      refine wp_scope_forward 0 rfl ?_
      go_wp2_with (first
        | ((go_at_call 44; with_reducible refine (hasPage_any H.out HG.out _ _).mono ?_); rintro e w' ⟨rfl, rfl⟩)
        | ((go_at_call 43; with_reducible refine (refusal_off H.out ho).mono ?_); rintro e w' ⟨rfl, rfl⟩))
      go_step3
      refine ⟨rfl, ?_⟩
      dsimp only
      go_wp2
      rw [Exit.noGoto_ret]
      go_ret3
      exact HF.out
end

theorem own_ne5 {W : World} {base n T : Nat} {v : Value} {xs : List Value} {o : Obj} (h : W.ownsRow base 5 1 v n xs) (hT : W.heap[T]? = some o) (ho : ∀ cs fr, o ≠ .cells cs 5 fr) : ∀ p, v.ownBlock = some p → ¬ T = p := fun p hp e => by
  subst e
  rcases h.2 with ⟨e0, _⟩ | ⟨p', cap, cur, e0, _, hp', _⟩
  · rw [e0] at hp; cases hp
  · rw [e0] at hp
    simp only [Value.ownBlock, Option.some.injEq] at hp
    subst hp
    rw [hT] at hp'
    injection hp' with hp'
    exact ho _ _ hp'
/-- The law's state behind started. -/
structure Md (w wx : World) (vo : Value) (k : Nat) (M : List KA) (G0 G1 : Obj) (b g m D : Nat) (V : Nat → Value) (s : Dev) (xs : List Int) (vf vp ve : Value) (pb : Int) : Prop where
  own : wx.ownsRow w.heap.size 43 5 vo k (encs M)
  byt : ∀ e ∈ M, ∃ l : List UInt8, wx.ownsRow w.heap.size 5 1 e.vd e.x.length (bv l) ∧ ∀ p, e.vd.ownBlock = some p → p < s.lo
  dv : Dv wx s.lo b g m V s
  rd : Rd wx xs s vf vp ve pb
  box : wx.heap[D]? = some (.cells (rdv s vf vp ve pb) 35 (0, 0))
  g0 : wx.heap[w.heap.size]? = some G0
  g1 : wx.heap[w.heap.size + 1]? = some G1
  n0 : ∀ cs fr, G0 ≠ .cells cs 5 fr
  n1 : ∀ cs fr, G1 ≠ .cells cs 5 fr
  low : Below w.heap.size w wx
theorem Md.below {w wx W : World} {vo : Value} {k : Nat} {M : List KA} {G0 G1 : Obj} {b g m D : Nat} {V : Nat → Value} {s : Dev} {xs : List Int} {vf vp ve : Value} {pb : Int} (h : Md w wx vo k M G0 G1 b g m D V s xs vf vp ve pb) (hb : Below wx.heap.size wx W) : Md w W vo k M G0 G1 b g m D V s xs vf vp ve pb :=
  ⟨own_below h.own hb, fun e he => by obtain ⟨l, h1, h2⟩ := h.byt e he; exact ⟨l, own_below h1 hb, h2⟩, h.dv.below hb, h.rd.below hb, (hb.block _ (Array.getElem?_eq_some_iff.1 h.box).1).trans h.box, (hb.block _ (Array.getElem?_eq_some_iff.1 h.g0).1).trans h.g0, (hb.block _ (Array.getElem?_eq_some_iff.1 h.g1).1).trans h.g1, h.n0, h.n1, h.low.trans (hb.mono h.low.size)⟩
theorem Md.put {w wx : World} {vo : Value} {k : Nat} {M : List KA} {G0 G1 : Obj} {b g m D : Nat} {V : Nat → Value} {s : Dev} {xs : List Int} {vf vp ve : Value} {pb : Int} (h : Md w wx vo k M G0 G1 b g m D V s xs vf vp ve pb) {e : KA} (he : e ∈ M) {p : Nat} (hp : e.vd.ownBlock = some p) (j : Nat) (u : UInt8) :
    Md w (wx.setCell ⟨p, j, none⟩ (.int .u8 (u.toNat : Int))) vo k M G0 G1 b g m D V s xs vf vp ve pb := by
  obtain ⟨l0, h1, h2⟩ := h.byt e he
  have hplo := h2 p hp
  have hc : Chg (· = p) wx (wx.setCell ⟨p, j, none⟩ (.int .u8 (u.toNat : Int))) := (Chg.refl (· = p) wx).setCell rfl _
  have hT : ∃ cs, wx.heap[p]? = some (.cells cs 5 (0, 0)) := by
    rcases h1.2 with ⟨e0, _⟩ | ⟨p', cap, cur, e0, _, hp', _⟩
    · rw [e0] at hp; cases hp
    · rw [e0] at hp
      simp only [Value.ownBlock, Option.some.injEq] at hp
      subst hp
      exact ⟨cur, hp'⟩
  obtain ⟨cs, hT⟩ := hT
  have oth : ∀ {T : Nat} {o : Obj}, wx.heap[T]? = some o → (∀ cs fr, o ≠ .cells cs 5 fr) → (wx.setCell ⟨p, j, none⟩ (.int .u8 (u.toNat : Int))).heap[T]? = some o := fun {T o} hh ho => (hc.block T (Array.getElem?_eq_some_iff.1 hh).1 (own_ne5 h1 hh ho p hp)).trans hh
  refine ⟨own_chg h.own hc (fun q hq e2 => ?_), fun e' he' => ?_, h.dv.chg_lo hc (fun q hq => by rw [hq]; exact hplo), h.rd.chg_lo hc (fun q hq => by rw [hq]; exact hplo) (fun q hq => by rw [hq]; exact ⟨_, _, hT⟩), oth h.box (fun cs fr e2 => by injection e2 with _ e2; exact absurd e2 (by decide)), oth h.g0 h.n0, oth h.g1 h.n1, h.n0, h.n1, h.low.setCell (p := ⟨p, j, none⟩) (h1.lt p hp).1 _⟩
  · subst e2
    rcases h.own.2 with ⟨e0, _⟩ | ⟨p', cap, cur, e0, _, hp', _⟩
    · rw [e0] at hq; cases hq
    · rw [e0] at hq
      simp only [Value.ownBlock, Option.some.injEq] at hq
      subst hq
      exact absurd (ty_ne hp' hT) (by decide)
  · obtain ⟨l, h3, h4⟩ := h.byt e' he'
    by_cases hs : e'.vd.ownBlock = some p
    · rcases h3.2 with ⟨e0, _⟩ | ⟨p', cap, cur, e0, _, hp', _⟩
      · rw [e0] at hs; cases hs
      · rw [e0] at hs
        simp only [Value.ownBlock, Option.some.injEq] at hs
        subst hs
        refine ⟨l.set j u, ?_, h4⟩
        rw [e0] at h3 ⊢
        rw [← bv_set]
        exact (h3.stored j _).1
    · exact ⟨l, own_chg h3 hc (fun q hq e2 => hs (by rw [hq, e2])), h4⟩
/-- A number of eight bits and one. -/
theorem u8_next (a : UInt8) : Value.int .u8 (IntKind.u8.wrap ((a.toNat : Int) + 1)) = Value.int .u8 ((a + 1).toNat : Int) := by
  congr 1
end Go.Proofs.Ytddejcoagcaidaa
