/- The reference's Order. Conditions stand in each theorem. -/
import Derived.Test.YtfcddkehodceaaaR
namespace Go.Proofs.Ytfcddkehodceaaa
open Go.RowKit
set_option linter.unusedVariables false
set_option maxHeartbeats 8000000
set_option maxRecDepth 100000
attribute [local go_sem ↓ 100000] builtin_appX
def oi (O : List Nat) : List Int := O.map fun (i : Nat) => (i : Int)
theorem oi_len (O : List Nat) : (oi O).length = O.length := by simp [oi]
theorem oi_put (O : List Nat) (t k : Nat) : oi (O.take t ++ k :: O.drop t) = (oi O).take t ++ (k : Int) :: (oi O).drop t := by simp [oi, List.map_take, List.map_drop]
theorem own3_base {w : World} {base base' n : Nat} {v : Value} {xs : List Value} (h : w.ownsRow base 3 1 v n xs) (hb : base' ≤ base) : w.ownsRow base' 3 1 v n xs := by
  refine ⟨h.1, ?_⟩
  rcases h.2 with h1 | ⟨g, cap, cur, h1, h2, h3⟩
  · exact .inl h1
  · exact .inr ⟨g, cap, cur, h1, Nat.le_trans hb h2, h3⟩
theorem own3_later {w W : World} {base n : Nat} {v : Value} {xs : List Value} (h : w.ownsRow base 3 1 v n xs) (hb : Below w.heap.size w W) : W.ownsRow base 3 1 v n xs := by
  refine ⟨h.1, ?_⟩
  rcases h.2 with h1 | ⟨g, cap, cur, h1, h2, h3, hr⟩
  · exact .inl h1
  · exact .inr ⟨g, cap, cur, h1, h2, (hb.block g (Array.getElem?_eq_some_iff.1 h3).1).trans h3, hr⟩
theorem ints_at {w : World} {A : Option Addr} {n c : Nat} {O : List Nat} (h : Ints w (.slice A n c) (oi O)) (h0 : 0 < O.length) : ∃ g o, A = some ⟨g, o, none⟩ ∧ g < w.heap.size ∧ ∀ j (hj : j < O.length), w.cell? ⟨g, o + j, none⟩ = some (.int .i64 (O[j] : Int)) := by
  obtain ⟨A', c', e, hr⟩ := h
  simp only [Value.slice.injEq] at e
  obtain ⟨rfl, -, rfl⟩ := e
  obtain ⟨g, o, rfl, hg, hc⟩ := hr (by rw [oi_len]; exact h0)
  refine ⟨g, o, rfl, hg, fun j hj => ?_⟩
  have := hc j (by rw [oi_len]; exact hj)
  simpa [oi] using this
/-- What the reference's Order leaves. -/
def ROPost (w : World) (l : List Cd) (e : Ending) (w' : World) : Prop :=
  Below w.heap.size w w' ∧ (((¬ ∀ c ∈ l, c.ok) ∧ e = .returned (.tuple #[.slice none 0 0, .int .i64 2])) ∨ ((∀ c ∈ l, c.ok) ∧ ∃ v O, e = .returned (.tuple #[v, .int .i64 0]) ∧ w'.ownsRow w.heap.size 3 1 v O.length (iv (oi O)) ∧ OutAt l l.length O))
theorem rorder_any (w : World) (v : Value) (l : List Cd) (hv : Cs w v l) (hl : l.length ≤ 30) : Calls Try.prog 15 #[v] w (ROPost w l) := by
  obtain ⟨A, c, rfl, hA⟩ := hv
  have HA := Lib.hid hA
  have hlz : (l.length : Int) ≤ 30 := by omega
  clear hA
  go_enter Try.func15, Try.ntmps15
  go_wp2
  go_loopw [4, 5] (fun vo i wr => ∃ (k : Nat) (O : List Nat), k ≤ l.length ∧ i = .int .i64 k ∧ Hid (wr.ownsRow w.heap.size 3 1 vo O.length (iv (oi O))) ∧ Hid (OutAt l k O) ∧ Hid (Below w.heap.size w wr) ∧ Hid (∀ i (h : i < l.length), i < k → l[i].ok)) (fun vo i _ => l.length - (RowKit.intOf i).toNat)
  case atStart => exact ⟨0, [], Nat.zero_le _, rfl, World.ownsRow_nil _ _ _ _, out_zero l, Below.refl _ _, fun i h h2 => absurd h2 (by omega)⟩
  case round =>
    obtain ⟨k, O, hk, rfl, HO, HOA, HB, HOK⟩ := hrel
    have hkz : (k : Int) ≤ (l.length : Int) := by omega
    by_cases hlt : k < l.length
    · have hltz : (k : Int) < (l.length : Int) := by omega
      obtain ⟨g, o, rfl, hg, hc⟩ := HA.out (by omega)
      have HCD : Hid (∀ i (h : i < l.length), CdO w g (o + i * 4) l[i]) := hc
      have hx := (hc k hlt).below HB.out hg
      obtain ⟨x, hxx⟩ : ∃ x, x = l[k] := ⟨_, rfl⟩
      rw [← hxx] at hx
      have HX := Lib.hid hxx
      have c0 := hx.c0; have c1 := hx.c1; have c2 := hx.c2; have c3 := hx.c3
      have HXC := Lib.hid hx
      have hgw : g < wr.heap.size := Nat.lt_of_lt_of_le hg HB.out.size
      have HR : Hid (∀ W, Calls Try.prog 18 #[x.v] W (RetB W (.bool (decide x.ok)))) := fun W => retB_of (right_any x W)
      have HU : Hid (∀ W, Calls Try.prog 20 #[x.v] W (RetB W (.bool (decide x.use)))) := fun W => retB_of (useful_any x W)
      clear hc hxx hx
      by_cases hok : x.ok
      · rw [decide_eq_true hok] at HR
        have hok2 : ∀ i (h : i < l.length), i < k + 1 → l[i].ok := fun i h h2 => by
          by_cases hik : i < k
          · exact HOK.out i h hik
          · obtain rfl : i = k := by omega
            rw [← HX.out]; exact hok
        have HOK2 := Lib.hid hok2
        by_cases huse : x.use
        · have hva := huse.2
          rw [decide_eq_true huse] at HU
          have HUSE := Lib.hid huse
          have hOuse : ∀ i ∈ O, (gk l i).c.use := fun i hi => by
            have hm : gk l i ∈ useK (rkL l) k := HOA.out.pm.mem_iff.1 (List.mem_map.2 ⟨i, hi, rfl⟩)
            obtain ⟨h1, h2⟩ := List.mem_filter.1 hm
            have hik := HOA.out.lt i hi
            rw [gk_at (by omega)]
            rw [gk_at (by omega)] at h2
            exact ⟨HOK.out i (by omega) hik, of_decide_eq_true h2⟩
          have HOU := Lib.hid hOuse
          obtain ⟨A1, cO, rfl⟩ := own3_form HO.out
          obtain ⟨-, hints, A1', c1', e1, hcO⟩ := ints_of_own HO.out
          simp only [Value.slice.injEq] at e1
          obtain ⟨rfl, -, rfl⟩ := e1
          rw [oi_len] at hcO
          have HI := Lib.hid hints
          have hOl := HOA.out.len
          have hOz : (O.length : Int) ≤ 30 := by omega
          obtain ⟨x0, hx0⟩ : ∃ x0, x0 = x := ⟨_, rfl⟩
          have HX0 := Lib.hid hx0
          clear hok hok2 huse hva hOuse hints hx0
          have HPR : Hid (∀ y : Cd, y.use → ∀ W, Calls Try.prog 21 #[x.v, y.v] W (Ret W (.bool (decide (cfP x0 y < 0))))) := fun y hy W => by rw [HX0.out]; exact preferred_any x y HUSE.out hy W
          rw [← HX0.out] at HX HUSE
          obtain ⟨bl, va, pa, ag⟩ := x
          simp only [Cd.v] at *
          go_wp2_with (first
            | ((go_at_call 18; (with_reducible refine (HR.out _).mono ?_)); rintro e w2 ⟨rfl, hb2⟩; have hd := HXC.out.below hb2 hgw; have c0 := hd.c0; have c1 := hd.c1; have c2 := hd.c2; have c3 := hd.c3; have HB2 := Lib.hid hb2; clear hb2 hd)
            | ((go_at_call 20; (with_reducible refine (HU.out _).mono ?_)); rintro e w3 ⟨rfl, hb3⟩; have HB3 := Lib.hid (HB2.out.trans (hb3.mono HB2.out.size)); clear hb3))
          have HXC3 := Lib.hid (HXC.out.below HB3.out hgw)
          have HI3 := Lib.hid (HI.out.below HB3.out)
          have hgw3 : g < w3.heap.size := Nat.lt_of_lt_of_le hgw HB3.out.size
          have HL3 : Hid (∀ i (h : i < l.length), CdO w3 g (o + i * 4) l[i]) := fun i h => ((HCD.out i h).below HB.out hg).below HB3.out hgw
          have HBW3 := Lib.hid (HB.out.trans (HB3.out.mono HB.out.size))
          clear c0 c1 c2 c3 HB2
          go_loopw [6] (fun s6 wr => ∃ t : Nat, t ≤ O.length ∧ s6 = .int .i64 t ∧ Hid (∀ s (hs : s < O.length), t ≤ s → cfP x0 (gk l O[s]).c < 0) ∧ Hid (Below w3.heap.size w3 wr)) (fun s6 _ => (RowKit.intOf s6).toNat)
          case atStart => exact ⟨O.length, Nat.le_refl _, rfl, fun s hs h => absurd hs (by omega), Below.refl _ _⟩
          case round =>
            obtain ⟨t, ht, rfl, HHI, HBR⟩ := hrel
            have htz : (t : Int) ≤ (O.length : Int) := by omega
            have HIr := Lib.hid (HI3.out.below HBR.out)
            have hgwr : g < wr.heap.size := Nat.lt_of_lt_of_le hgw3 HBR.out.size
            have HXR := Lib.hid (HXC3.out.below HBR.out hgw3)
            by_cases hc : ∃ h : 0 < t, cfP x0 (gk l (O[t - 1]'(by omega))).c < 0
            · obtain ⟨h0, hlt1⟩ := hc
              obtain ⟨s, hs⟩ : ∃ s, s = t - 1 := ⟨_, rfl⟩
              have hs1 : t - 1 = s := hs.symm
              have hsl : s < O.length := by omega
              obtain ⟨ga, oa, rfl, hga, hce⟩ := ints_at HIr.out (by omega)
              obtain ⟨i0, hi0⟩ : ∃ i0, i0 = O[s] := ⟨_, rfl⟩
              have hm0 : i0 ∈ O := by rw [hi0]; exact List.getElem_mem _
              have hil : i0 < l.length := by have := HOA.out.lt i0 hm0; omega
              have hyu := HOU.out i0 hm0
              have hyg : (gk l O[s]).c = l[i0] := by rw [← hi0, gk_at hil]
              have hyg2 : (gk l i0).c = l[i0] := by rw [gk_at hil]
              rw [hyg2] at hyu
              have hcell := hce s hsl
              rw [← hi0] at hcell
              have hcy := (HL3.out i0 hil).below HBR.out hgw3
              obtain ⟨y, hy⟩ : ∃ y, y = l[i0] := ⟨_, rfl⟩
              rw [← hy] at hcy hyu
              obtain ⟨yb, yv, yp, ya⟩ := y
              have HYU := Lib.hid hyu
              have HY := Lib.hid hy
              have HYG := Lib.hid hyg
              have HCY := Lib.hid hcy
              have HCE := Lib.hid hcell
              have u1 : decide ((t : Int) > 0) = true := decide_eq_true (by omega)
              have e1 : (t : Int) - 1 = (s : Int) := by omega
              have hne := gw_ne wr
              have c0 := fun z : Gw wr => (HXR.out.below z.h.below hgwr).c0
              have c1 := fun z : Gw wr => (HXR.out.below z.h.below hgwr).c1
              have c2 := fun z : Gw wr => (HXR.out.below z.h.below hgwr).c2
              have c3 := fun z : Gw wr => (HXR.out.below z.h.below hgwr).c3
              have d0 := fun z : Gw wr => (HCY.out.below z.h.below hgwr).c0
              have d1 := fun z : Gw wr => (HCY.out.below z.h.below hgwr).c1
              have d2 := fun z : Gw wr => (HCY.out.below z.h.below hgwr).c2
              have d3 := fun z : Gw wr => (HCY.out.below z.h.below hgwr).c3
              have e0 := fun z : Gw wr => z.cell HCE.out
              clear hyu hyg hyg2 hcell hcy hce hy hi0 hs hm0
              have HHI2 : Hid (∀ q (hq : q < O.length), s ≤ q → cfP x0 (gk l O[q]).c < 0) := fun q hq h => by
                by_cases hqs : q = s
                · subst hqs; simpa only [hs1] using hlt1
                · exact HHI.out q hq (by omega)
              have HPY : Hid (∀ W, Calls Try.prog 21 #[.agg #[.int .i64 bl, .int .i64 va, .int .i64 pa, .int .i64 ag], .agg #[.int .i64 yb, .int .i64 yv, .int .i64 yp, .int .i64 ya]] W (Ret W (.bool true))) := fun W => by
                have h1 := HPR.out ⟨yb, yv, yp, ya⟩ HYU.out W
                rw [decide_eq_true (show cfP x0 ⟨yb, yv, yp, ya⟩ < 0 by rw [HY.out, ← HYG.out]; simpa only [hs1] using hlt1)] at h1
                exact h1
              have hsz : (s : Int) < (O.length : Int) := by omega
              have hizz : (i0 : Int) < (l.length : Int) := by omega
              clear hlt1 hs1
              go_wp2
              refine wp_region_gw (by kernel_rfl) (by kernel_rfl) ?_
              repeat (go_big_quiet_step ((go_at_call 21; exact gw_of _ (HPY.out _))))
              refine wpQuiet_nil ?_
              rintro w4 ⟨⟨_, hg4⟩, rfl⟩
              have HB4 := Lib.hid (HBR.out.trans (hg4.below.mono HBR.out.size))
              clear hg4 c0 c1 c2 c3 d0 d1 d2 d3 e0
              go_wp2
              go_roundw
              case rel => exact ⟨s, by omega, rfl, HHI2, HB4⟩
              case measure => simp [RowKit.intOf]; omega
            · have HLO : Hid (∀ h0 : 0 < t, ¬ cfP x0 (gk l (O[t - 1]'(by omega))).c < 0) := fun h0 h1 => hc ⟨h0, h1⟩
              clear hc
              rcases Nat.eq_zero_or_pos t with h0 | h0
              case' inl =>
                have u1 : decide ((t : Int) > 0) = false := decide_eq_false (by omega)
                have hne := gw_ne wr
                go_wp2
                refine wp_region_gw (by kernel_rfl) (by kernel_rfl) ?_
                repeat (go_big_quiet_step (fail))
                refine wpQuiet_nil ?_
                rintro w4 ⟨⟨_, hg4⟩, rfl⟩
                have HB4 := Lib.hid (HBR.out.trans (hg4.below.mono HBR.out.size))
                have HI4 := Lib.hid (HIr.out.below hg4.below)
                have HT0 := Lib.hid (show (t : Int) = 0 by omega)
                clear hg4 u1
                go_wp2
                clear h0
              case' inr =>
                obtain ⟨s, hs⟩ : ∃ s, s = t - 1 := ⟨_, rfl⟩
                have hs1 : t - 1 = s := hs.symm
                have hsl : s < O.length := by omega
                obtain ⟨ga, oa, rfl, hga, hce⟩ := ints_at HIr.out (by omega)
                obtain ⟨i0, hi0⟩ : ∃ i0, i0 = O[s] := ⟨_, rfl⟩
                have hm0 : i0 ∈ O := by rw [hi0]; exact List.getElem_mem _
                have hil : i0 < l.length := by have := HOA.out.lt i0 hm0; omega
                have hyu := HOU.out i0 hm0
                have hyg : (gk l O[s]).c = l[i0] := by rw [← hi0, gk_at hil]
                have hyg2 : (gk l i0).c = l[i0] := by rw [gk_at hil]
                rw [hyg2] at hyu
                have hcell := hce s hsl
                rw [← hi0] at hcell
                have hcy := (HL3.out i0 hil).below HBR.out hgw3
                obtain ⟨y, hy⟩ : ∃ y, y = l[i0] := ⟨_, rfl⟩
                rw [← hy] at hcy hyu
                obtain ⟨yb, yv, yp, ya⟩ := y
                have HYU := Lib.hid hyu
                have HY := Lib.hid hy
                have HYG := Lib.hid hyg
                have HCY := Lib.hid hcy
                have HCE := Lib.hid hcell
                have u1 : decide ((t : Int) > 0) = true := decide_eq_true (by omega)
                have e1 : (t : Int) - 1 = (s : Int) := by omega
                have hne := gw_ne wr
                have c0 := fun z : Gw wr => (HXR.out.below z.h.below hgwr).c0
                have c1 := fun z : Gw wr => (HXR.out.below z.h.below hgwr).c1
                have c2 := fun z : Gw wr => (HXR.out.below z.h.below hgwr).c2
                have c3 := fun z : Gw wr => (HXR.out.below z.h.below hgwr).c3
                have d0 := fun z : Gw wr => (HCY.out.below z.h.below hgwr).c0
                have d1 := fun z : Gw wr => (HCY.out.below z.h.below hgwr).c1
                have d2 := fun z : Gw wr => (HCY.out.below z.h.below hgwr).c2
                have d3 := fun z : Gw wr => (HCY.out.below z.h.below hgwr).c3
                have e0 := fun z : Gw wr => z.cell HCE.out
                clear hyu hyg hyg2 hcell hcy hce hy hi0 hs hm0
                have HPY : Hid (∀ W, Calls Try.prog 21 #[.agg #[.int .i64 bl, .int .i64 va, .int .i64 pa, .int .i64 ag], .agg #[.int .i64 yb, .int .i64 yv, .int .i64 yp, .int .i64 ya]] W (Ret W (.bool false))) := fun W => by
                  have h1 := HPR.out ⟨yb, yv, yp, ya⟩ HYU.out W
                  rw [decide_eq_false (show ¬ cfP x0 ⟨yb, yv, yp, ya⟩ < 0 by rw [HY.out, ← HYG.out]; simpa only [hs1] using HLO.out h0)] at h1
                  exact h1
                have hsz : (s : Int) < (O.length : Int) := by omega
                have hizz : (i0 : Int) < (l.length : Int) := by omega
                clear hs1
                go_wp2
                refine wp_region_gw (by kernel_rfl) (by kernel_rfl) ?_
                repeat (go_big_quiet_step ((go_at_call 21; exact gw_of _ (HPY.out _))))
                refine wpQuiet_nil ?_
                rintro w4 ⟨⟨_, hg4⟩, rfl⟩
                have HB4 := Lib.hid (HBR.out.trans (hg4.below.mono HBR.out.size))
                have HI4 := Lib.hid (HIr.out.below hg4.below)
                clear hg4 c0 c1 c2 c3 d0 d1 d2 d3 e0
                go_wp2
              all_goals
                have hoput : OutAt l (k + 1) (O.take t ++ k :: O.drop t) := by
                  have hx0c : (gk l k).c = x0 := by rw [gk_at hlt]; exact HX.out.symm
                  refine out_put HOA.out (fun i h h2 => HOK2.out i h (by omega)) hlt (by rw [← HX.out]; exact HUSE.out.2) HOU.out ht ?_ ?_
                  · rw [hx0c]; exact fun h0 => by have := HLO.out h0; omega
                  · rw [hx0c]; exact fun s hs h => HHI.out s hs h
                have HOP := Lib.hid hoput
                have HBW4 := Lib.hid (HBW3.out.trans (HB4.out.mono HBW3.out.size))
                obtain ⟨V1, rv1, hV1⟩ := is_slice_h (l := oi O) (hi := t) (by rw [oi_len]; exact HI4.out) (by rw [oi_len]; exact ht) (by rw [oi_len]; exact hcO)
                obtain ⟨V2, rv2, hV2⟩ := is_slice_l (l := oi O) (lo := t) (by rw [oi_len]; exact HI4.out) (by rw [oi_len]; exact ht) (by rw [oi_len]; exact hcO)
                simp only [oi_len] at rv1 rv2
                try rw [HT0.out] at rv1 rv2
                have heq := oi_put O t k
                have hk1 : ((oi O).take t).length ≤ 30 := by rw [List.length_take, oi_len]; omega
                have hk2 : ((oi O).drop t).length ≤ 30 := by rw [List.length_drop, oi_len]; omega
                generalize (oi O).take t = l1 at *
                generalize (oi O).drop t = l2 at *
                obtain ⟨q, hq⟩ : ∃ q : Int, q = (k : Int) := ⟨_, rfl⟩
                rw [← hq] at heq
                have HEQ := Lib.hid heq
                have hlen : (l1 ++ q :: l2).length = (O.take t ++ k :: O.drop t).length := by rw [← heq, oi_len]
                have HLEN := Lib.hid hlen
                have hb40 := HBW4.out.size
                obtain ⟨B1, k1, U1, B2, k2, U2, B3, k3, U3, ra1, ra2, ra3, hbU1, hA⟩ := ord_a w4 q hV1 hV2 (by omega) (by omega)
                obtain ⟨B4, k4, U4, B5, k5, U5, B6, k6, U6, rb1, rb2, rb3, hB⟩ := ord_b w4 ((w4.alloc (.cells #[] 3)).alloc (.cells #[.int .i64 q] 3)).drew (x := w4.heap.size + 1) (y := w4.heap.size) (q := q) hV1 hV2 (by omega) (by omega) ((((Below.refl _ w4).alloc (Nat.le_refl _) _).alloc (by simp) _).drew) (Nat.le_refl _) (by omega) ((Below.heap_alloc _ _ _ (by simp)).trans (heap_alloc_new w4 _)) (by have := heap_alloc_new (w4.alloc (.cells #[] 3)) (.cells #[.int .i64 q] 3); rwa [World.size_alloc] at this)
                obtain ⟨B7, k7, U7, B8, k8, U8, B9, k9, U9, rc1, rc2, rc3, hC⟩ := ord_b w4 ((w4.alloc (.cells #[.int .i64 q] 3)).alloc (.cells #[] 3)).drew (x := w4.heap.size) (y := w4.heap.size + 1) (q := q) hV1 hV2 (by omega) (by omega) ((((Below.refl _ w4).alloc (Nat.le_refl _) _).alloc (by simp) _).drew) (by omega) (by omega) (by have := heap_alloc_new (w4.alloc (.cells #[.int .i64 q] 3)) (.cells #[] 3); rwa [World.size_alloc] at this) ((Below.heap_alloc _ _ _ (by simp)).trans (heap_alloc_new w4 _))
                have Ra1 := appX_run ra1
                have Ra2 := appX_run ra2
                have Ra3 := appX_run ra3
                have Rb1 := appX_run rb1
                have Rb2 := appX_run rb2
                have Rb3 := appX_run rb3
                have Rc1 := appX_run rc1
                have Rc2 := appX_run rc2
                have Rc3 := appX_run rc3
                rw [hq] at Ra2 Rb1 Rc1
                have hoA := own3_base hA.own hb40
                have hoB := own3_base hB.own hb40
                have hoC := own3_base hC.own hb40
                rw [hlen, ← heq] at hoA hoB hoC
                have HRA := Lib.hid hoA
                have HRB := Lib.hid hoB
                have HRC := Lib.hid hoC
                have HBA := Lib.hid (HBW4.out.trans (hA.b3.mono hb40))
                have HBB := Lib.hid (HBW4.out.trans (hB.b3.mono hb40))
                have HBC := Lib.hid (HBW4.out.trans (hC.b3.mono hb40))
                clear ra1 ra2 ra3 rb1 rb2 rb3 rc1 rc2 rc3 hoA hoB hoC hA hB hC hbU1 hV1 hV2 hlen heq hoput
                have hl1z : (l1.length : Int) ≤ 30 := by omega
                have hl2z : (l2.length : Int) ≤ 30 := by omega
                generalize l1.length = ll1 at *
                generalize l2.length = ll2 at *
                go_region
                all_goals
                  go_wp2
                  go_roundw
                  case rel => first | exact ⟨k + 1, O.take t ++ k :: O.drop t, by omega, by go_num, HRA, HOP, HBA, HOK2⟩ | exact ⟨k + 1, O.take t ++ k :: O.drop t, by omega, by go_num, HRB, HOP, HBB, HOK2⟩ | exact ⟨k + 1, O.take t ++ k :: O.drop t, by omega, by go_num, HRC, HOP, HBC, HOK2⟩
                  case measure => simp [RowKit.intOf]; omega
        · have hva : ¬ (l[k].va < l[k].pa) := fun h => huse ⟨hok, by rw [HX.out]; exact h⟩
          rw [decide_eq_false huse] at HU
          have HOS := Lib.hid (out_skip HOA.out hlt hva)
          clear hok hok2 huse hva
          obtain ⟨bl, va, pa, ag⟩ := x
          simp only [Cd.v] at *
          go_wp2_with (first
            | ((go_at_call 18; (with_reducible refine (HR.out _).mono ?_)); rintro e w2 ⟨rfl, hb2⟩; have hd := HXC.out.below hb2 hgw; have c0 := hd.c0; have c1 := hd.c1; have c2 := hd.c2; have c3 := hd.c3; have HB2 := Lib.hid hb2; clear hb2 hd)
            | ((go_at_call 20; (with_reducible refine (HU.out _).mono ?_)); rintro e w3 ⟨rfl, hb3⟩; have HB3 := Lib.hid (HB2.out.trans (hb3.mono HB2.out.size)); clear hb3))
          go_roundw
          case rel => exact ⟨k + 1, O, by omega, by go_num, own3_later HO.out HB3.out, HOS, HB.out.trans (HB3.out.mono HB.out.size), HOK2⟩
          case measure => simp [RowKit.intOf]; omega
      · have HNO := Lib.hid (show ¬ ∀ c ∈ l, c.ok from fun h => hok (by rw [HX.out]; exact h _ (List.getElem_mem _)))
        rw [decide_eq_false hok] at HR
        clear hok
        obtain ⟨bl, va, pa, ag⟩ := x
        simp only [Cd.v] at *
        go_wp2_with ((go_at_call 18; (with_reducible refine (HR.out _).mono ?_)); rintro e w2 ⟨rfl, hb2⟩; have HB2 := Lib.hid hb2; clear hb2)
        go_ret2
        exact ⟨HB.out.trans (HB2.out.mono HB.out.size), .inl ⟨HNO.out, rfl⟩⟩
    · obtain rfl : k = l.length := by omega
      have HALL := Lib.hid (show ∀ c ∈ l, c.ok from fun c hc => by
        obtain ⟨i, hi, rfl⟩ := List.mem_iff_getElem.1 hc
        exact HOK.out i hi hi)
      go_wp2
      go_ret2
      exact ⟨HB.out, .inr ⟨HALL.out, _, O, rfl, HO.out, HOA.out⟩⟩
end Go.Proofs.Ytfcddkehodceaaa
