/- The reference's Read. Conditions stand in each theorem. -/
import Derived.Test.YtddejcoagcaidaaDC
namespace Go.Proofs.Ytddejcoagcaidaa
open Go.RowKit
set_option linter.unusedVariables false
set_option maxHeartbeats 8000000
set_option maxRecDepth 100000
/-- What the reference's Read leaves. -/
def RrPost (w : World) (s : Dev) (q p : Int) (e : Ending) (w' : World) : Prop := ∃ A1 n1 c1 A2 n2 c2, e = .returned (.tuple #[.slice A1 n1 c1, .slice A2 n2 c2, .int .i64 (s.rdE q p)]) ∧ BytT s.lo w' (.slice A1 n1 c1) (s.rdD q p) ∧ BytT s.lo w' (.slice A2 n2 c2) (s.rdS q p) ∧ Below w.heap.size w w'
theorem rr_none {w w' : World} {s : Dev} {q p k : Int} (he : s.rdE q p = k) (hk : k ≠ 0) (hb : Below w.heap.size w w') : RrPost w s q p (.returned (.tuple #[.slice none 0 0, .slice none 0 0, .int .i64 k])) w' := by
  have h1 : s.rdD q p = [] := if_neg (by rw [he]; exact hk)
  have h2 : s.rdS q p = [] := if_neg (by rw [he]; exact hk)
  exact ⟨none, 0, 0, none, 0, 0, by rw [he], by rw [h1]; exact BytT.nil _, by rw [h2]; exact BytT.nil _, hb⟩
theorem stt_some {s : Dev} (hg : Gd s) {q p : Int} (h : s.hasP q p = true) : 1 ≤ s.stt q p ∧ s.stt q p ≤ 5 := by
  obtain ⟨k, j, rfl, rfl, hk, hj⟩ := hasP_nat h
  rw [stt_pgF h]
  simp only [Int.toNat_natCast]
  by_cases hl : j < (s.bk k).pg.length
  · rw [pgF_in hl]
    rcases hg.ln k hk _ (List.getElem_mem hl) with ⟨h1, _⟩ | h1 <;> omega
  · rw [pgF_out (by omega)]
    exact ⟨by decide, by decide⟩
theorem rslice_run {A : Option Addr} {n c k : Nat} (hk : k ≤ n) (hn : n ≤ c) :
    (∀ W : World, (Instr.slice 41 (.slice A n c) none (some (.int .i64 (k : Int))) none).run Try.prog W = .ok (sliced A 0 k c 1) W) ∧
    (∀ W : World, (Instr.slice 41 (.slice A n c) (some (.int .i64 (k : Int))) none none).run Try.prog W = .ok (sliced A k n c 1) W) := by
  obtain ⟨i0, hi0, hz0, hz1, hz2⟩ := info_parts u8_info
  constructor
  · intro W
    rw [run_slice_h (P := Try.prog) (w := W) (t := 41) (a := A) (len := n) (cap := c) (ht := under41e) .i64 k (by omega) (by omega)]
    simp [sizeOf, typeInfo, elem41, hi0, hz1]
  · intro W
    rw [run_slice_l (P := Try.prog) (w := W) (t := 41) (a := A) (len := n) (cap := c) (ht := under41e) .i64 k (by omega) (by omega)]
    simp [sizeOf, typeInfo, elem41, hi0, hz1]
theorem rRead_any {w : World} {fs : List Int} {s : Dev} {vf vp ve : Value} {pb : Int} (h : Rd w fs s vf vp ve pb) (hg : Gd s) (q p : Int) : Calls Try.prog 37 #[.agg (rdv s vf vp ve pb), .int .i64 q, .int .i64 p] w (RrPost w s q p) := by
  have HSA := Lib.hid (fun W (hb : Below w.heap.size w W) => rState_any (h.below hb) hg q p)
  have H := Lib.hid h
  have HG := Lib.hid hg
  obtain ⟨⟨A1, n1, c1, rfl⟩, -, ⟨A3, n3, c3, rfl⟩⟩ := h.forms
  obtain ⟨g, c, cur, rfl, hc, hh, hrow⟩ := id h.grid
  have hst := fun e => stt_some hg (q := q) (p := p) e
  simp only [rdv] at HSA ⊢
  obtain ⟨W1, hW1⟩ : ∃ W1, W1 = w.alloc (.cells #[.int .i64 (s.nb : Int), .int .i64 (s.np : Int), .int .i64 (s.sz : Int), .int .i64 s.en, .slice A1 n1 c1, .slice (some ⟨g, 0, none⟩) s.nb c, .slice A3 n3 c3, .int .i64 s.n, .int .i64 s.po, .int .i64 pb, .bool s.off] 35) := ⟨_, rfl⟩
  have hbw : Below w.heap.size w W1 := by rw [hW1]; exact balloc w _
  have hbx : W1.heap[w.heap.size]? = some (.cells #[.int .i64 (s.nb : Int), .int .i64 (s.np : Int), .int .i64 (s.sz : Int), .int .i64 s.en, .slice A1 n1 c1, .slice (some ⟨g, 0, none⟩) s.nb c, .slice A3 n3 c3, .int .i64 s.n, .int .i64 s.po, .int .i64 pb, .bool s.off] 35 (0, 0)) := by rw [hW1]; exact heap_alloc_new w _
  have HX := Lib.hid (fun W' (hb : Below W1.heap.size W1 W') => box11 hbx hb)
  have HBW := Lib.hid hbw
  have HW := Lib.hid hW1
  have HS := Lib.hid (fun (_ : Unit) => HSA.out W1 hbw)
  have HRW := Lib.hid hrow
  have HH := Lib.hid hh
  have HGL := Lib.hid (Array.getElem?_eq_some_iff.1 hh).1
  have hnp : (s.np : Int) ≤ 512 := by have := hg.np; omega
  have hnb : (s.nb : Int) ≤ 4096 := by have := hg.nb; omega
  have hsz : (s.sz : Int) ≤ 8192 := by have := hg.sz; omega
  clear h hg hbw hbx hrow hh hc hW1 HSA
  cases hp : s.hasP q p with
  | false =>
    have e0 : s.stt q p = 0 := stt_none hp
    have HNO := Lib.hid (fun W (hb : Below w.heap.size w W) => rr_none (w := w) (w' := W) (s := s) (q := q) (p := p) (k := 2) (if_pos hp) (by decide) hb)
    rw [e0] at HS
    clear e0 hp hst H HG HRW HH
    go_enter Try.func37, Try.ntmps37
    go_upto_region 1 with fail
    rw [← HW.out]
    obtain ⟨x0, x1, x2, x3, x4, x5, x6, x7, x8, x9, x10⟩ := HX.out W1 (Below.refl _ _)
    go_wp2_with ((go_at_call 42; with_reducible refine (HS.out ()).mono ?_); rintro e w2 ⟨rfl, hb⟩; obtain ⟨y0, y1, y2, y3, y4, y5, y6, y7, y8, y9, y10⟩ := HX.out _ hb; have HB2 := Lib.hid (HBW.out.trans (hb.mono HBW.out.size)); clear hb)
    go_ret3
    exact HNO.out _ HB2.out
  | true =>
    obtain ⟨t1, t5⟩ := hst hp
    have hE : s.rdE q p = if s.off = true then 50 else if s.stt q p = 1 then 52 else if s.stt q p = 4 ∨ s.stt q p = 5 then 53 else 0 := by
      unfold Dev.rdE
      rw [if_neg (by rw [hp]; decide)]
    clear hst
    obtain ⟨t, ht⟩ : ∃ t, t = s.stt q p := ⟨_, rfl⟩
    rw [← ht] at HS t1 t5 hE
    have n0 : ¬ t = 0 := by omega
    have b0 : (t == 0) = false := by simpa using n0
    cases ho : s.off with
    | true =>
      have HNO := Lib.hid (fun W (hb : Below w.heap.size w W) => rr_none (w := w) (w' := W) (s := s) (q := q) (p := p) (k := 50) (by rw [hE, if_pos ho]) (by decide) hb)
      rw [ho] at HS HX HW
      clear ht hE hp H HG HRW HH ho
      go_enter Try.func37, Try.ntmps37
      go_upto_region 1 with fail
      rw [← HW.out]
      obtain ⟨x0, x1, x2, x3, x4, x5, x6, x7, x8, x9, x10⟩ := HX.out W1 (Below.refl _ _)
      go_wp2_with ((go_at_call 42; with_reducible refine (HS.out ()).mono ?_); rintro e w2 ⟨rfl, hb⟩; obtain ⟨y0, y1, y2, y3, y4, y5, y6, y7, y8, y9, y10⟩ := HX.out _ hb; have HB2 := Lib.hid (HBW.out.trans (hb.mono HBW.out.size)); clear hb)
      go_ret3
      exact HNO.out _ HB2.out
    | false =>
      rw [if_neg (by rw [ho]; decide)] at hE
      rw [ho] at HS HX HW
      by_cases h1 : t = 1
      · have HNO := Lib.hid (fun W (hb : Below w.heap.size w W) => rr_none (w := w) (w' := W) (s := s) (q := q) (p := p) (k := 52) (by rw [hE, if_pos h1]) (by decide) hb)
        clear ht hE hp H HG HRW HH ho n0 b0
        subst h1
        go_enter Try.func37, Try.ntmps37
        go_upto_region 1 with fail
        rw [← HW.out]
        obtain ⟨x0, x1, x2, x3, x4, x5, x6, x7, x8, x9, x10⟩ := HX.out W1 (Below.refl _ _)
        go_wp2_with ((go_at_call 42; with_reducible refine (HS.out ()).mono ?_); rintro e w2 ⟨rfl, hb⟩; obtain ⟨y0, y1, y2, y3, y4, y5, y6, y7, y8, y9, y10⟩ := HX.out _ hb; have HB2 := Lib.hid (HBW.out.trans (hb.mono HBW.out.size)); clear hb)
        go_ret3
        exact HNO.out _ HB2.out
      have b1 : (t == 1) = false := by simpa using h1
      by_cases h4 : t = 4
      · have HNO := Lib.hid (fun W (hb : Below w.heap.size w W) => rr_none (w := w) (w' := W) (s := s) (q := q) (p := p) (k := 53) (by rw [hE, if_neg h1, if_pos (.inl h4)]) (by decide) hb)
        clear ht hE hp H HG HRW HH ho n0 b0 b1 h1
        subst h4
        go_enter Try.func37, Try.ntmps37
        go_upto_region 1 with fail
        rw [← HW.out]
        obtain ⟨x0, x1, x2, x3, x4, x5, x6, x7, x8, x9, x10⟩ := HX.out W1 (Below.refl _ _)
        go_wp2_with ((go_at_call 42; with_reducible refine (HS.out ()).mono ?_); rintro e w2 ⟨rfl, hb⟩; obtain ⟨y0, y1, y2, y3, y4, y5, y6, y7, y8, y9, y10⟩ := HX.out _ hb; have HB2 := Lib.hid (HBW.out.trans (hb.mono HBW.out.size)); clear hb)
        go_ret3
        exact HNO.out _ HB2.out
      have b4 : (t == 4) = false := by simpa using h4
      by_cases h5 : t = 5
      · have HNO := Lib.hid (fun W (hb : Below w.heap.size w W) => rr_none (w := w) (w' := W) (s := s) (q := q) (p := p) (k := 53) (by rw [hE, if_neg h1, if_pos (.inr h5)]) (by decide) hb)
        clear ht hE hp H HG HRW HH ho n0 b0 b1 h1 b4 h4
        subst h5
        go_enter Try.func37, Try.ntmps37
        go_upto_region 1 with fail
        rw [← HW.out]
        obtain ⟨x0, x1, x2, x3, x4, x5, x6, x7, x8, x9, x10⟩ := HX.out W1 (Below.refl _ _)
        go_wp2_with ((go_at_call 42; with_reducible refine (HS.out ()).mono ?_); rintro e w2 ⟨rfl, hb⟩; obtain ⟨y0, y1, y2, y3, y4, y5, y6, y7, y8, y9, y10⟩ := HX.out _ hb; have HB2 := Lib.hid (HBW.out.trans (hb.mono HBW.out.size)); clear hb)
        go_ret3
        exact HNO.out _ HB2.out
      have b5 : (t == 5) = false := by simpa using h5
      have hE0 : s.rdE q p = 0 := by rw [hE, if_neg h1, if_neg (by rintro (h | h); exact h4 h; exact h5 h)]
      have hE1 : s.rdD q p = (s.pgAt q p).d ∧ s.rdS q p = (s.pgAt q p).s := ⟨if_pos hE0, if_pos hE0⟩
      obtain ⟨i, j, rfl, rfl, hi, hj⟩ := hasP_nat hp
      obtain ⟨pv, hpv, g2, c2, cur2, rfl, hc2, hh2, hrow2⟩ := HRW.out i hi
      obtain ⟨hs2, bv, hbv, hby, -⟩ := hrow2 j hj
      have htp : t = (pgF s i j).st := by rw [ht, stt_pgF hp]; simp
      have hbb := hby (by omega)
      have hlen : (pgF s i j).d.length = s.sz ∧ (pgF s i j).s.length = 64 := by
        by_cases hl : j < (s.bk i).pg.length
        · rw [pgF_in hl] at htp ⊢
          rcases HG.out.ln i hi _ (List.getElem_mem hl) with ⟨_, h2, h3⟩ | h2
          · exact ⟨h2, h3⟩
          · omega
        · rw [pgF_out (by omega)] at htp
          exact absurd htp h1
      have hpa : s.pgAt (i : Int) (j : Int) = pgF s i j := rfl
      rw [hpa] at hE1
      obtain ⟨pg, hpg⟩ : ∃ pg, pg = pgF s i j := ⟨_, rfl⟩
      rw [← hpg] at hbb hlen hE1
      obtain ⟨A, k, hbe⟩ := byt_form hbb.1
      rw [hbe] at hbb hbv
      have hkc : (pg.d ++ pg.s).length ≤ k := by
        obtain ⟨⟨A', c', e, hc', _⟩, _⟩ := hbb
        cases e
        exact hc'
      have hL : (pg.d ++ pg.s).length = s.sz + 64 := by rw [List.length_append, hlen.1, hlen.2]
      have s1 := hbb.sub (lo := 0) (hi := s.sz) (mx := k) (Nat.zero_le _) (by omega) (by omega)
      have s2 := hbb.sub (lo := s.sz) (hi := s.sz + 64) (mx := k) (by omega) (by omega) (by omega)
      rw [List.drop_zero, List.take_left' hlen.1] at s1
      rw [List.take_of_length_le (by omega), List.drop_left' hlen.1] at s2
      rw [hL] at hbv hkc
      obtain ⟨r1, r2⟩ := rslice_run (A := A) (n := s.sz + 64) (c := k) (k := s.sz) (by omega) hkc
      obtain ⟨P1, m1, d1, e1⟩ := slice_opaque (A := A) (lo := 0) (hi := s.sz) (mx := k)
      obtain ⟨P2, m2, d2, e2⟩ := slice_opaque (A := A) (lo := s.sz) (hi := s.sz + 64) (mx := k)
      rw [e1] at s1 r1
      rw [e2] at s2 r2
      have S1 := Lib.hid s1
      have S2 := Lib.hid s2
      have HFIN := Lib.hid (fun W (hb : Below w.heap.size w W) => (show RrPost w s (i : Int) (j : Int) (.returned (.tuple #[.slice P1 m1 d1, .slice P2 m2 d2, .int .i64 0])) W from ⟨_, _, _, _, _, _, by rw [hE0], by rw [hE1.1]; exact S1.out.below hb, by rw [hE1.2]; exact S2.out.below hb, hb⟩))
      have HC := Lib.hid (fun W' (hb : Below w.heap.size w W') => And.intro ((hb.cell (p := ⟨g, i, none⟩) HGL.out).trans ((cell_of_row _ _ i _ _ _ HH.out).trans hpv)) ((hb.cell (p := ⟨g2, j * 2 + 1, none⟩) (Array.getElem?_eq_some_iff.1 hh2).1).trans ((cell_of_row _ _ (j * 2 + 1) _ _ _ hh2).trans hbv)))
      have hi2 : (i : Int) < (s.nb : Int) := by omega
      have hj2 : (j : Int) < (s.np : Int) := by omega
      clear ht hE hp H HG HRW HH ho hE0 hE1 hpv hc2 hh2 hrow2 hs2 hbv hby htp hbb hlen hpa hpg hbe hkc hL s1 s2 e1 e2 hi hj
      go_enter Try.func37, Try.ntmps37
      go_upto_region 1 with fail
      rw [← HW.out]
      obtain ⟨x0, x1, x2, x3, x4, x5, x6, x7, x8, x9, x10⟩ := HX.out W1 (Below.refl _ _)
      go_upto_region 10 with ((go_at_call 42; with_reducible refine (HS.out ()).mono ?_); rintro e w2 ⟨rfl, hb⟩; obtain ⟨y0, y1, y2, y3, y4, y5, y6, y7, y8, y9, y10⟩ := HX.out _ hb; have HB2 := Lib.hid (HBW.out.trans (hb.mono HBW.out.size)); clear hb)
      obtain ⟨z1, z2⟩ := HC.out _ HB2.out
      go_upto_region 11 with fail
      go_quiet (fail)
      go_wp2
      go_ret3
      exact HFIN.out _ (bdrewN HB2.out _)
end Go.Proofs.Ytddejcoagcaidaa
