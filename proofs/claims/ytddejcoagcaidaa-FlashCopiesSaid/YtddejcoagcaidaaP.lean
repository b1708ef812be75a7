/- The contract of Read. Conditions stand in each theorem. -/
import Derived.Test.YtddejcoagcaidaaO
namespace Go.Proofs.Ytddejcoagcaidaa
open Go.RowKit
set_option linter.unusedVariables false
set_option maxHeartbeats 2000000
set_option maxRecDepth 100000
/-- What Read returns: the error; the data and the spare bytes. -/
def Dev.rdE (s : Dev) (q p : Int) : Int := if s.hasP q p = false then 2 else if s.off = true then 50 else if s.stt q p = 1 then 52 else if s.stt q p = 4 ∨ s.stt q p = 5 then 53 else 0
def Dev.pgAt (s : Dev) (q p : Int) : Pg := ((s.bk q.toNat).pg[p.toNat]?).getD ⟨1, [], []⟩
def Dev.rdD (s : Dev) (q p : Int) : List UInt8 := if s.rdE q p = 0 then (s.pgAt q p).d else []
def Dev.rdS (s : Dev) (q p : Int) : List UInt8 := if s.rdE q p = 0 then (s.pgAt q p).s else []
/-- Bytes that lie in new memory. -/
def Fresh (w w' : World) (v : Value) (l : List UInt8) : Prop := BytT 0 w' v l ∧ ∀ k, v.ownBlock = some k → w.heap.size ≤ k
def ReadPost (w : World) (s : Dev) (q p : Int) (e : Ending) (w' : World) : Prop := ∃ A1 n1 c1 A2 n2 c2, e = .returned (.tuple #[.slice A1 n1 c1, .slice A2 n2 c2, .int .i64 (s.rdE q p)]) ∧ Fresh w w' (.slice A1 n1 c1) (s.rdD q p) ∧ Fresh w w' (.slice A2 n2 c2) (s.rdS q p) ∧ Below w.heap.size w w'
theorem Fresh.nil (w w' : World) : Fresh w w' (.slice none 0 0) [] := ⟨BytT.nil w', fun k hk => by cases hk⟩
theorem read_none {w : World} {s : Dev} {q p k : Int} (he : s.rdE q p = k) (hk : k ≠ 0) : ReadPost w s q p (.returned (.tuple #[.slice none 0 0, .slice none 0 0, .int .i64 k])) w := by
  have h1 : s.rdD q p = [] := if_neg (by rw [he]; exact hk)
  have h2 : s.rdS q p = [] := if_neg (by rw [he]; exact hk)
  exact ⟨none, 0, 0, none, 0, 0, by rw [he], by rw [h1]; exact Fresh.nil _ _, by rw [h2]; exact Fresh.nil _ _, Below.refl _ _⟩
theorem byt_form {w : World} {v : Value} {l : List UInt8} (h : Byt w v l) : ∃ A c, v = .slice A l.length c := by
  obtain ⟨A, c, e, _⟩ := h
  exact ⟨A, c, e⟩
section
variable {w : World} {base b g m : Nat} {V : Nat → Value} {s : Dev}
theorem Read_any (h : Dv w base b g m V s) (hG : Gd s) (q p : Int) : Calls Try.prog 18 #[.pointer (some ⟨b, 0, none⟩), .int .i64 q, .int .i64 p] w (ReadPost w s q p) := by
  have H := Lib.hid h
  have HG := Lib.hid hG
  have c4 := h.c4
  cases hp : s.hasP q p
  · have HF := Lib.hid (read_none (w := w) (s := s) (q := q) (p := p) (k := 2) (if_pos hp) (by decide))
    clear h hG
    go_enter Try.func18, Try.ntmps18
    go_wp2
    refine wp_scope_forward 0 rfl ?_
    go_wp2_with (first
      | ((go_at_call 44; with_reducible refine (hasPage_any H.out HG.out _ _).mono ?_); rintro e w' ⟨rfl, rfl⟩)
      | ((go_at_call 43; with_reducible refine (refusal_no H.out).mono ?_); rintro e w' ⟨rfl, rfl⟩))
    go_step3
    refine ⟨rfl, ?_⟩
    dsimp only
    go_wp2
    rw [Exit.noGoto_ret]
    go_ret3
    exact HF.out
  · cases ho : s.off
    · have hE : s.rdE q p = if s.stt q p = 1 then 52 else if s.stt q p = 4 ∨ s.stt q p = 5 then 53 else 0 := by unfold Dev.rdE; rw [if_neg (by rw [hp]; simp), if_neg (by rw [ho]; simp)]
      by_cases h1 : s.stt q p = 1
      · have HF := Lib.hid (read_none (w := w) (s := s) (q := q) (p := p) (k := 52) (by rw [hE, if_pos h1]) (by decide))
        clear h hG hE
        have HS : Hid (Calls Try.prog 30 #[.pointer (some ⟨b, 0, none⟩), .int .i64 q, .int .i64 p] w fun e w' => e = .returned (.int .i64 1) ∧ w = w') := Lib.hid (by have := State_any H.out HG.out q p; rw [h1] at this; exact this)
        clear h1
        go_enter Try.func18, Try.ntmps18
        go_wp2
        refine wp_scope_forward 0 rfl ?_
        go_wp2_with (first
          | ((go_at_call 44; with_reducible refine (hasPage_any H.out HG.out _ _).mono ?_); rintro e w' ⟨rfl, rfl⟩)
          | ((go_at_call 43; with_reducible refine (refusal_ok H.out ho).mono ?_); rintro e w' ⟨rfl, rfl⟩)
          | ((go_at_call 30; with_reducible refine HS.out.mono ?_); rintro e w' ⟨rfl, rfl⟩))
        go_step3
        refine ⟨rfl, ?_⟩
        dsimp only
        go_wp2
        rw [Exit.noGoto_ret]
        go_ret3
        exact HF.out
      · obtain ⟨k, j, rfl, rfl, hk, hj⟩ := hasP_nat hp
        by_cases hl : j < (s.bk k).pg.length
        · have e1 : s.stt (k : Int) (j : Int) = ((s.bk k).pg[j]).st := by unfold Dev.stt; rw [if_neg (by simp [hp])]; simp [hl]
          have hpa : s.pgAt (k : Int) (j : Int) = (s.bk k).pg[j] := by unfold Dev.pgAt; simp [hl]
          have HPA := Lib.hid hpa
          have hln := hG.ln k hk _ (List.getElem_mem hl)
          obtain ⟨p0, c, dv, sv, hV, q0, q1, q2, hbd, hbs⟩ := h.page hk hl
          obtain ⟨_, h6⟩ := h.gcells hk
          rw [hV] at h6
          rw [if_neg h1] at hE
          have hS := State_any H.out HG.out (k : Int) (j : Int)
          rw [e1] at hS h1 hE
          have hlen : (j : Int) < ((s.bk k).pg.length : Int) := by omega
          generalize (s.bk k).pg[j] = P at *
          rcases hln with ⟨hst, hd, hs⟩ | hst
          · have h45 : ¬ (P.st = 4 ∨ P.st = 5) := by omega
            rw [if_neg h45] at hE
            have hsz := hG.sz
            have HC1 := Lib.hid (Clone_any dv P.d w hbd.1 (by omega) (by omega))
            have HC2 : Hid (∀ W, Below w.heap.size w W → Calls Try.prog 45 #[sv] W fun e w' => (∃ A c, e = .returned (.slice A P.s.length c) ∧ w'.ownsRow W.heap.size 5 1 (.slice A P.s.length c) P.s.length (bv P.s)) ∧ Below W.heap.size W w') := Lib.hid (fun W hW => Clone_any sv P.s W (hbs.1.below hW) (by omega) (by omega))
            have HQ1 := Lib.hid q1
            have HH6 := Lib.hid h6
            obtain ⟨Ad, kd, ed⟩ := byt_form hbd.1
            obtain ⟨As, ks, es⟩ := byt_form hbs.1
            subst ed
            subst es
            have HE := Lib.hid hE
            have HD := Lib.hid (show s.rdD (k : Int) (j : Int) = P.d by unfold Dev.rdD; rw [if_pos hE, hpa])
            have HSS := Lib.hid (show s.rdS (k : Int) (j : Int) = P.s by unfold Dev.rdS; rw [if_pos hE, hpa])
            have HS := Lib.hid hS
            have hcases : P.st = 2 ∨ P.st = 3 := hst
            have hpl := World.block_lt_of_cell? w _ q0
            clear h hG hE hS e1 hpa hV hbd hbs hd hs hsz h45 hst q2
            rcases hcases with h2 | h2
            all_goals
              rw [h2] at HS h1
              go_enter Try.func18, Try.ntmps18
              go_wp2
              go_step3
              go_wp2_with (first
                | ((go_at_call 44; with_reducible refine (hasPage_any H.out HG.out _ _).mono ?_); rintro e w' ⟨rfl, rfl⟩)
                | ((go_at_call 43; with_reducible refine (refusal_ok H.out ho).mono ?_); rintro e w' ⟨rfl, rfl⟩)
                | ((go_at_call 30; with_reducible refine HS.out.mono ?_); rintro e w' ⟨rfl, rfl⟩)
                | ((go_at_call 45; with_reducible refine HC1.out.mono ?_); rintro e w1 ⟨⟨A1, n1, rfl, ho1⟩, hb⟩; have HO1 := Lib.hid ho1; have HB1 := Lib.hid hb; have H1 := Lib.hid (H.out.below hb); have k4 := H1.out.c4; have k6 := (hb.cell (p := ⟨g, k * 2 + 1, none⟩) H.out.glt).trans HH6.out; have k7 := (hb.cell (p := ⟨p0, j * 3 + 1, none⟩) hpl).trans HQ1.out; clear hb ho1)
                | ((go_at_call 45; with_reducible refine (HC2.out _ HB1.out).mono ?_); rintro e w2 ⟨⟨A2, n2, rfl, ho2⟩, hb⟩; have HO2 := Lib.hid ho2; have HB2 := Lib.hid hb; clear hb ho2))
              go_step3
              go_wp2
              rw [Exit.noGoto_ret]
              go_ret3
              refine ⟨_, _, _, _, _, _, by rw [HE.out]; rfl, ?_, ?_, HB1.out.trans (HB2.out.mono HB1.out.size)⟩
              · rw [HD.out]
                exact ⟨(BytT.of_own HO1.out (Nat.zero_le _)).below HB2.out, fun k hk => (HO1.out.lt k hk).1⟩
              · rw [HSS.out]
                exact ⟨BytT.of_own HO2.out (Nat.zero_le _), fun k hk => Nat.le_trans HB1.out.size (HO2.out.lt k hk).1⟩
          · rw [if_pos hst] at hE
            have HF := Lib.hid (read_none (w := w) (s := s) (q := (k : Int)) (p := (j : Int)) (k := 53) hE (by decide))
            have HS := Lib.hid hS
            have hcases : P.st = 4 ∨ P.st = 5 := hst
            clear h hG hE hS e1 hpa hV hbd hbs hst q0 q1 q2 h6
            rcases hcases with h2 | h2
            all_goals
              rw [h2] at HS h1
              go_enter Try.func18, Try.ntmps18
              go_wp2
              refine wp_scope_forward 0 rfl ?_
              go_wp2_with (first
                | ((go_at_call 44; with_reducible refine (hasPage_any H.out HG.out _ _).mono ?_); rintro e w' ⟨rfl, rfl⟩)
                | ((go_at_call 43; with_reducible refine (refusal_ok H.out ho).mono ?_); rintro e w' ⟨rfl, rfl⟩)
                | ((go_at_call 30; with_reducible refine HS.out.mono ?_); rintro e w' ⟨rfl, rfl⟩))
              go_step3
              refine ⟨rfl, ?_⟩
              dsimp only
              go_wp2
              rw [Exit.noGoto_ret]
              go_ret3
              exact HF.out
        · exfalso
          apply h1
          unfold Dev.stt
          rw [if_neg (by simp [hp])]
          simp [hl]
    · have HF := Lib.hid (read_none (w := w) (s := s) (q := q) (p := p) (k := 50) (by unfold Dev.rdE; rw [if_neg (by rw [hp]; simp), if_pos ho]) (by decide))
      clear h hG
      go_enter Try.func18, Try.ntmps18
      go_wp2
      refine wp_scope_forward 0 rfl ?_
      go_wp2_with (first
        | ((go_at_call 44; with_reducible refine (hasPage_any H.out HG.out _ _).mono ?_); rintro e w' ⟨rfl, rfl⟩)
        | ((go_at_call 43; with_reducible refine (refusal_off H.out ho).mono ?_); rintro e w' ⟨rfl, rfl⟩))
      go_step3
      refine ⟨rfl, ?_⟩
      dsimp only
      go_wp2
      rw [Exit.noGoto_ret]
      go_ret3
      exact HF.out
end
end Go.Proofs.Ytddejcoagcaidaa
