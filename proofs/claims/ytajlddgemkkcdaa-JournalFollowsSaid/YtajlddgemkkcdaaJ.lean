/- The contracts of isJournal, recordOf, last, of the two kinds, of Compare and of Or. Conditions stand in each theorem. -/
import Derived.Test.YtajlddgemkkcdaaI
namespace Go.Proofs.Ytajlddgemkkcdaa
open Go.RowKit
set_option linter.unusedVariables false
set_option maxHeartbeats 4000000
set_option maxRecDepth 100000
/-- A description: kind, sector, sequence, prev, index, length. -/
structure Spr where
  k : Int
  s : Int
  q : Int
  p : Int
  i : Int
  n : Int
abbrev Spr.row (x : Spr) : Array Value := #[.int .u8 x.k, .int .i64 x.s, .int .u64 x.q, .int .u64 x.p, .int .i64 x.i, .int .i64 x.n]
abbrev Spr.v (x : Spr) : Value := .agg x.row
structure Spr.ok (x : Spr) : Prop where
  q0 : 0 ≤ x.q
  q1 : x.q ≤ 18446744073709551615
  p0 : 0 ≤ x.p
  p1 : x.p ≤ 18446744073709551615
def jnB (x : Spr) : Bool := decide (((((kdB x.k = true ∧ x.s = 0) ∧ wiB x.n 1 65535 = true) ∧ wiB x.i 0 (x.n - 1) = true) ∧ x.p < x.q) ∧ x.i < x.q - x.p)
theorem isJournal_any (x : Spr) (hx : x.ok) (w : World) : Calls Try.prog 50 #[x.v] w (Ret w (.bool (jnB x))) := by
  obtain ⟨q0, q1, p0, p1⟩ := hx
  have H1 := Lib.hid (fun W => isKind_any x.k W)
  have H2 := Lib.hid (fun W => within_any x.n 1 65535 W)
  have H3 := Lib.hid (fun W => within_any x.i 0 (x.n - 1) W)
  have HJ : Hid (jnB x = decide (((((kdB x.k = true ∧ x.s = 0) ∧ wiB x.n 1 65535 = true) ∧ wiB x.i 0 (x.n - 1) = true) ∧ x.p < x.q) ∧ x.i < x.q - x.p)) := Lib.hid rfl
  obtain ⟨R, hR⟩ : ∃ R, R = jnB x := ⟨_, rfl⟩
  rw [← hR] at HJ ⊢
  clear hR
  have hrow : ∀ j u, x.row[j]? = some u → (w.alloc (.cells x.row 44)).cell? ⟨w.heap.size, j, none⟩ = some u := fun j u h => (cell_of_row _ w.heap.size j _ 44 (0, 0) (heap_alloc_new w _)).trans h
  have y0 := hrow 0 _ rfl
  have y1 := hrow 1 _ rfl
  have y2 := hrow 2 _ rfl
  have y3 := hrow 3 _ rfl
  have y4 := hrow 4 _ rfl
  have y5 := hrow 5 _ rfl
  have hg0 : Gr w (w.alloc (.cells x.row 44)) := (Gr.refl _).alloc _
  obtain ⟨k, s, q, p, i, n⟩ := x
  simp only at *
  obtain ⟨W, hW⟩ : ∃ W, W = w.alloc (.cells #[.int .u8 k, .int .i64 s, .int .u64 q, .int .u64 p, .int .i64 i, .int .i64 n] 44) := ⟨_, rfl⟩
  rw [← hW] at y0 y1 y2 y3 y4 y5 hg0
  have HG := Lib.hid hg0
  have HW := Lib.hid hW
  clear hrow hg0 hW
  cases hk : kdB k
  · rw [hk] at H1 HJ
    clear hk
    have HR : Hid (R = false) := Lib.hid (by rw [HJ.out]; exact decide_eq_false (by simp))
    clear HJ
    go_enter Try.func50, Try.ntmps50
    go_upto_region 1 with fail
    rw [← HW.out]
    go_wp2_with (first | ((go_at_call 29; with_reducible refine (H1.out _).mono ?_); rintro e w1 ⟨rfl, hg⟩; replace y0 := hg.cell y0; replace y1 := hg.cell y1; replace y2 := hg.cell y2; replace y3 := hg.cell y3; replace y4 := hg.cell y4; replace y5 := hg.cell y5; replace HG := Lib.hid (HG.out.trans hg); clear hg) | ((go_at_call 28; with_reducible refine (H2.out _).mono ?_); rintro e w1 ⟨rfl, hg⟩; replace y0 := hg.cell y0; replace y1 := hg.cell y1; replace y2 := hg.cell y2; replace y3 := hg.cell y3; replace y4 := hg.cell y4; replace y5 := hg.cell y5; replace HG := Lib.hid (HG.out.trans hg); clear hg) | ((go_at_call 28; with_reducible refine (H3.out _).mono ?_); rintro e w1 ⟨rfl, hg⟩; replace y0 := hg.cell y0; replace y1 := hg.cell y1; replace y2 := hg.cell y2; replace y3 := hg.cell y3; replace y4 := hg.cell y4; replace y5 := hg.cell y5; replace HG := Lib.hid (HG.out.trans hg); clear hg))
    go_ret
    exact ⟨by rw [HR.out]; rfl, HG.out⟩
  · rw [hk] at H1 HJ
    clear hk
    by_cases hs : s = 0
    · subst hs
      cases hn : wiB n 1 65535
      · rw [hn] at H2 HJ
        clear hn
        have HR : Hid (R = false) := Lib.hid (by rw [HJ.out]; exact decide_eq_false (by simp))
        clear HJ
        go_enter Try.func50, Try.ntmps50
        go_upto_region 1 with fail
        rw [← HW.out]
        go_wp2_with (first | ((go_at_call 29; with_reducible refine (H1.out _).mono ?_); rintro e w1 ⟨rfl, hg⟩; replace y0 := hg.cell y0; replace y1 := hg.cell y1; replace y2 := hg.cell y2; replace y3 := hg.cell y3; replace y4 := hg.cell y4; replace y5 := hg.cell y5; replace HG := Lib.hid (HG.out.trans hg); clear hg) | ((go_at_call 28; with_reducible refine (H2.out _).mono ?_); rintro e w1 ⟨rfl, hg⟩; replace y0 := hg.cell y0; replace y1 := hg.cell y1; replace y2 := hg.cell y2; replace y3 := hg.cell y3; replace y4 := hg.cell y4; replace y5 := hg.cell y5; replace HG := Lib.hid (HG.out.trans hg); clear hg) | ((go_at_call 28; with_reducible refine (H3.out _).mono ?_); rintro e w1 ⟨rfl, hg⟩; replace y0 := hg.cell y0; replace y1 := hg.cell y1; replace y2 := hg.cell y2; replace y3 := hg.cell y3; replace y4 := hg.cell y4; replace y5 := hg.cell y5; replace HG := Lib.hid (HG.out.trans hg); clear hg))
        go_ret
        exact ⟨by rw [HR.out]; rfl, HG.out⟩
      · have hn1 : 1 ≤ n ∧ n ≤ 65535 := of_decide_eq_true hn
        rw [hn] at H2 HJ
        clear hn
        obtain ⟨n1, n2⟩ := hn1
        cases hi : wiB i 0 (n - 1)
        · rw [hi] at H3 HJ
          clear hi
          have HR : Hid (R = false) := Lib.hid (by rw [HJ.out]; exact decide_eq_false (by simp))
          clear HJ
          go_enter Try.func50, Try.ntmps50
          go_upto_region 1 with fail
          rw [← HW.out]
          go_wp2_with (first | ((go_at_call 29; with_reducible refine (H1.out _).mono ?_); rintro e w1 ⟨rfl, hg⟩; replace y0 := hg.cell y0; replace y1 := hg.cell y1; replace y2 := hg.cell y2; replace y3 := hg.cell y3; replace y4 := hg.cell y4; replace y5 := hg.cell y5; replace HG := Lib.hid (HG.out.trans hg); clear hg) | ((go_at_call 28; with_reducible refine (H2.out _).mono ?_); rintro e w1 ⟨rfl, hg⟩; replace y0 := hg.cell y0; replace y1 := hg.cell y1; replace y2 := hg.cell y2; replace y3 := hg.cell y3; replace y4 := hg.cell y4; replace y5 := hg.cell y5; replace HG := Lib.hid (HG.out.trans hg); clear hg) | ((go_at_call 28; with_reducible refine (H3.out _).mono ?_); rintro e w1 ⟨rfl, hg⟩; replace y0 := hg.cell y0; replace y1 := hg.cell y1; replace y2 := hg.cell y2; replace y3 := hg.cell y3; replace y4 := hg.cell y4; replace y5 := hg.cell y5; replace HG := Lib.hid (HG.out.trans hg); clear hg))
          go_ret
          exact ⟨by rw [HR.out]; rfl, HG.out⟩
        · have hi1 : 0 ≤ i ∧ i ≤ n - 1 := of_decide_eq_true hi
          rw [hi] at H3 HJ
          clear hi
          obtain ⟨i1, i2⟩ := hi1
          by_cases hp : p < q
          · have HP := Lib.hid hp
            have hpd : decide (p < q) = true := decide_eq_true hp
            by_cases hl : i < q - p
            · have hld : decide (i < q - p) = true := decide_eq_true hl
              have HR : Hid (R = true) := Lib.hid (by rw [HJ.out]; exact decide_eq_true ⟨⟨⟨⟨⟨rfl, rfl⟩, rfl⟩, rfl⟩, hp⟩, hl⟩)
              clear HJ
              go_enter Try.func50, Try.ntmps50
              go_upto_region 1 with fail
              rw [← HW.out]
              go_wp2_with (first | ((go_at_call 29; with_reducible refine (H1.out _).mono ?_); rintro e w1 ⟨rfl, hg⟩; replace y0 := hg.cell y0; replace y1 := hg.cell y1; replace y2 := hg.cell y2; replace y3 := hg.cell y3; replace y4 := hg.cell y4; replace y5 := hg.cell y5; replace HG := Lib.hid (HG.out.trans hg); clear hg) | ((go_at_call 28; with_reducible refine (H2.out _).mono ?_); rintro e w1 ⟨rfl, hg⟩; replace y0 := hg.cell y0; replace y1 := hg.cell y1; replace y2 := hg.cell y2; replace y3 := hg.cell y3; replace y4 := hg.cell y4; replace y5 := hg.cell y5; replace HG := Lib.hid (HG.out.trans hg); clear hg) | ((go_at_call 28; with_reducible refine (H3.out _).mono ?_); rintro e w1 ⟨rfl, hg⟩; replace y0 := hg.cell y0; replace y1 := hg.cell y1; replace y2 := hg.cell y2; replace y3 := hg.cell y3; replace y4 := hg.cell y4; replace y5 := hg.cell y5; replace HG := Lib.hid (HG.out.trans hg); clear hg))
              go_ret
              exact ⟨by rw [HR.out]; rfl, HG.out⟩
            · have hld : decide (i < q - p) = false := decide_eq_false hl
              have HR : Hid (R = false) := Lib.hid (by rw [HJ.out]; exact decide_eq_false (fun h => hl h.2))
              clear HJ
              go_enter Try.func50, Try.ntmps50
              go_upto_region 1 with fail
              rw [← HW.out]
              go_wp2_with (first | ((go_at_call 29; with_reducible refine (H1.out _).mono ?_); rintro e w1 ⟨rfl, hg⟩; replace y0 := hg.cell y0; replace y1 := hg.cell y1; replace y2 := hg.cell y2; replace y3 := hg.cell y3; replace y4 := hg.cell y4; replace y5 := hg.cell y5; replace HG := Lib.hid (HG.out.trans hg); clear hg) | ((go_at_call 28; with_reducible refine (H2.out _).mono ?_); rintro e w1 ⟨rfl, hg⟩; replace y0 := hg.cell y0; replace y1 := hg.cell y1; replace y2 := hg.cell y2; replace y3 := hg.cell y3; replace y4 := hg.cell y4; replace y5 := hg.cell y5; replace HG := Lib.hid (HG.out.trans hg); clear hg) | ((go_at_call 28; with_reducible refine (H3.out _).mono ?_); rintro e w1 ⟨rfl, hg⟩; replace y0 := hg.cell y0; replace y1 := hg.cell y1; replace y2 := hg.cell y2; replace y3 := hg.cell y3; replace y4 := hg.cell y4; replace y5 := hg.cell y5; replace HG := Lib.hid (HG.out.trans hg); clear hg))
              go_ret
              exact ⟨by rw [HR.out]; rfl, HG.out⟩
          · have hpd : decide (p < q) = false := decide_eq_false hp
            have HR : Hid (R = false) := Lib.hid (by rw [HJ.out]; exact decide_eq_false (fun h => hp h.1.2))
            clear HJ
            go_enter Try.func50, Try.ntmps50
            go_upto_region 1 with fail
            rw [← HW.out]
            go_wp2_with (first | ((go_at_call 29; with_reducible refine (H1.out _).mono ?_); rintro e w1 ⟨rfl, hg⟩; replace y0 := hg.cell y0; replace y1 := hg.cell y1; replace y2 := hg.cell y2; replace y3 := hg.cell y3; replace y4 := hg.cell y4; replace y5 := hg.cell y5; replace HG := Lib.hid (HG.out.trans hg); clear hg) | ((go_at_call 28; with_reducible refine (H2.out _).mono ?_); rintro e w1 ⟨rfl, hg⟩; replace y0 := hg.cell y0; replace y1 := hg.cell y1; replace y2 := hg.cell y2; replace y3 := hg.cell y3; replace y4 := hg.cell y4; replace y5 := hg.cell y5; replace HG := Lib.hid (HG.out.trans hg); clear hg) | ((go_at_call 28; with_reducible refine (H3.out _).mono ?_); rintro e w1 ⟨rfl, hg⟩; replace y0 := hg.cell y0; replace y1 := hg.cell y1; replace y2 := hg.cell y2; replace y3 := hg.cell y3; replace y4 := hg.cell y4; replace y5 := hg.cell y5; replace HG := Lib.hid (HG.out.trans hg); clear hg))
            go_ret
            exact ⟨by rw [HR.out]; rfl, HG.out⟩
    · have hsb : (s == 0) = false := by simpa using hs
      have HR : Hid (R = false) := Lib.hid (by rw [HJ.out]; exact decide_eq_false (fun h => hs h.1.1.1.1.2))
      clear HJ
      go_enter Try.func50, Try.ntmps50
      go_upto_region 1 with fail
      rw [← HW.out]
      go_wp2_with (first | ((go_at_call 29; with_reducible refine (H1.out _).mono ?_); rintro e w1 ⟨rfl, hg⟩; replace y0 := hg.cell y0; replace y1 := hg.cell y1; replace y2 := hg.cell y2; replace y3 := hg.cell y3; replace y4 := hg.cell y4; replace y5 := hg.cell y5; replace HG := Lib.hid (HG.out.trans hg); clear hg) | ((go_at_call 28; with_reducible refine (H2.out _).mono ?_); rintro e w1 ⟨rfl, hg⟩; replace y0 := hg.cell y0; replace y1 := hg.cell y1; replace y2 := hg.cell y2; replace y3 := hg.cell y3; replace y4 := hg.cell y4; replace y5 := hg.cell y5; replace HG := Lib.hid (HG.out.trans hg); clear hg) | ((go_at_call 28; with_reducible refine (H3.out _).mono ?_); rintro e w1 ⟨rfl, hg⟩; replace y0 := hg.cell y0; replace y1 := hg.cell y1; replace y2 := hg.cell y2; replace y3 := hg.cell y3; replace y4 := hg.cell y4; replace y5 := hg.cell y5; replace HG := Lib.hid (HG.out.trans hg); clear hg))
      go_ret
      exact ⟨by rw [HR.out]; rfl, HG.out⟩
def cmpI (a b : Int) : Int := if a < b then -1 else if b < a then 1 else 0
theorem isNaNu_any (a : Int) (w : World) : Calls Try.prog 71 #[.int .u64 a] w fun e w' => e = .returned (.bool false) ∧ w' = w := by
  go_enter Try.func71, Try.ntmps71
  go_wp2
  go_ret
  exact ⟨by simp, rfl⟩
theorem isNaNi_any (a : Int) (w : World) : Calls Try.prog 72 #[.int .i64 a] w fun e w' => e = .returned (.bool false) ∧ w' = w := by
  go_enter Try.func72, Try.ntmps72
  go_wp2
  go_ret
  exact ⟨by simp, rfl⟩
theorem cmpu_any (a b : Int) (w : World) : Calls Try.prog 54 #[.int .u64 a, .int .u64 b] w (Ret w (.int .i64 (cmpI a b))) := by
  have h1 := isNaNu_any a w
  have h2 := isNaNu_any b w
  unfold cmpI
  by_cases h : a < b
  · go_enter Try.func54, Try.ntmps54
    go_wp2_with (go_at_call 71; first | (refine h1.mono ?_; rintro e w' ⟨rfl, rfl⟩) | (refine h2.mono ?_; rintro e w' ⟨rfl, rfl⟩))
    go_ret
    exact ⟨by simp, Gr.refl _⟩
  · by_cases h' : b < a
    all_goals
      go_enter Try.func54, Try.ntmps54
      go_wp2_with (go_at_call 71; first | (refine h1.mono ?_; rintro e w' ⟨rfl, rfl⟩) | (refine h2.mono ?_; rintro e w' ⟨rfl, rfl⟩))
      go_ret
      exact ⟨by simp, Gr.refl _⟩
theorem cmpi_any (a b : Int) (w : World) : Calls Try.prog 55 #[.int .i64 a, .int .i64 b] w (Ret w (.int .i64 (cmpI a b))) := by
  have h1 := isNaNi_any a w
  have h2 := isNaNi_any b w
  unfold cmpI
  by_cases h : a < b
  · go_enter Try.func55, Try.ntmps55
    go_wp2_with (go_at_call 72; first | (refine h1.mono ?_; rintro e w' ⟨rfl, rfl⟩) | (refine h2.mono ?_; rintro e w' ⟨rfl, rfl⟩))
    go_ret
    exact ⟨by simp, Gr.refl _⟩
  · by_cases h' : b < a
    all_goals
      go_enter Try.func55, Try.ntmps55
      go_wp2_with (go_at_call 72; first | (refine h1.mono ?_; rintro e w' ⟨rfl, rfl⟩) | (refine h2.mono ?_; rintro e w' ⟨rfl, rfl⟩))
      go_ret
      exact ⟨by simp, Gr.refl _⟩
/-- The first that is not 0. -/
def orI (a b : Int) : Int := if a = 0 then b else a
theorem or_any (g n : Nat) (a b : Int) (w : World) (h0 : w.cell? ⟨g, 0, none⟩ = some (.int .i64 a)) (h1 : w.cell? ⟨g, 1, none⟩ = some (.int .i64 b)) :
    Calls Try.prog 53 #[.slice (some ⟨g, 0, none⟩) 2 n] w (Ret w (.int .i64 (orI a b))) := by
  unfold orI
  by_cases ha : a = 0
  · subst ha
    by_cases hb : b = 0
    · subst hb
      go_enter Try.func53, Try.ntmps53
      go_wp2
      refine wp_loop_rounds 3 ?_
      rw [rounds_succ]
      go_wp2
      rw [rounds_succ]
      go_wp2
      rw [rounds_succ]
      go_wp2
      go_ret
      exact ⟨rfl, Gr.refl _⟩
    · go_enter Try.func53, Try.ntmps53
      go_wp2
      refine wp_loop_rounds 3 ?_
      rw [rounds_succ]
      go_wp2
      rw [rounds_succ]
      go_wp2
      go_ret
      exact ⟨rfl, Gr.refl _⟩
  · go_enter Try.func53, Try.ntmps53
    go_wp2
    refine wp_loop_rounds 3 ?_
    rw [rounds_succ]
    go_wp2
    go_ret
    exact ⟨by simp, Gr.refl _⟩
/-- What the pages of a record have in common: kind, first number, prev, length. -/
structure Rec where
  k : Int
  f : Int
  p : Int
  n : Int
deriving DecidableEq
abbrev Rec.row (x : Rec) : Array Value := #[.int .u8 x.k, .int .u64 x.f, .int .u64 x.p, .int .i64 x.n]
abbrev Rec.v (x : Rec) : Value := .agg x.row
def Spr.key (x : Spr) : Rec := ⟨x.k, x.q - x.i, x.p, x.n⟩
theorem last_any (x : Rec) (h0 : 0 ≤ x.f) (h1 : 1 ≤ x.n) (h3 : x.n ≤ 65535) (h2 : x.f + (x.n - 1) ≤ 18446744073709551615) (w : World) : Calls Try.prog 33 #[x.v] w (Ret w (.int .u64 (x.f + (x.n - 1)))) := by
  obtain ⟨k, f, p, n⟩ := x
  simp only at *
  go_enter Try.func33, Try.ntmps33
  go_wp2
  go_ret
  exact ⟨rfl, (Gr.refl _).alloc _⟩
/-- A complete record: the record, the place of its earliest page, the slice of its places. -/
structure Loc where
  r : Rec
  e : Int
  pa : Option Addr
  pn : Nat
  pc : Nat
abbrev Loc.pl (x : Loc) : Value := .slice x.pa x.pn x.pc
abbrev Loc.row (x : Loc) : Array Value := #[.int .u8 x.r.k, .int .u64 x.r.f, .int .u64 x.r.p, .int .i64 x.r.n, .int .i64 x.e, x.pl]
abbrev Loc.v (x : Loc) : Value := .agg x.row
theorem isCheck_any (x : Loc) (w : World) : Calls Try.prog 35 #[x.v] w (Ret w (.bool (decide (x.r.k = 3)))) := by
  obtain ⟨⟨k, f, p, n⟩, e, pa, pn, pc⟩ := x
  go_enter Try.func35, Try.ntmps35
  go_wp2
  go_ret
  exact ⟨rfl, (Gr.refl _).alloc _⟩
theorem isDelta_any (x : Loc) (w : World) : Calls Try.prog 38 #[x.v] w (Ret w (.bool (decide (x.r.k = 2)))) := by
  obtain ⟨⟨k, f, p, n⟩, e, pa, pn, pc⟩ := x
  go_enter Try.func38, Try.ntmps38
  go_wp2
  go_ret
  exact ⟨rfl, (Gr.refl _).alloc _⟩
end Go.Proofs.Ytajlddgemkkcdaa
