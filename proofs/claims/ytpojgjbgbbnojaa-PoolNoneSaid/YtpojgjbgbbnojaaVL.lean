/- The walk of PoolLevels. Conditions stand in each theorem. -/
import Derived.Test.YtpojgjbgbbnojaaVC
import Derived.Test.YtpojgjbgbbnojaaO
namespace Go.Proofs.Ytpojgjbgbbnojaa
open Go.RowKit Go.Shelf
attribute [local go_sem] Oper.semAt_some
set_option linter.unusedVariables false
set_option maxHeartbeats 8000000
set_option maxRecDepth 100000
/-- A loop that counts down. -/
theorem loop_down {n : Nat} {P : Program} {c : Code} {Q : Exit → Act → World → Prop} {a : Act} {w : World} (I : Nat → Act → World → Prop) (μ : Act → World → Nat) (hμ : ∀ m a w, I m a w → μ a w = m) (m : Nat) (h0 : I m a w)
    (round : ∀ m a w, I m a w → ∀ K : Act → World → Prop, (∀ j a' w', j < m → I j a' w' → K a' w') → c.wpIn Fence.wide n P (Exit.then K Q) a w) : (Code.loop c).wpIn Fence.wide n P Q a w :=
  wpIn_loop (fun a w => ∃ m, I m a w) μ ⟨m, h0⟩ fun a w ⟨m, h⟩ => round m a w h _ fun j a' w' hj hI => ⟨⟨j, hI⟩, by rw [hμ _ _ _ hI, hμ _ _ _ h]; exact hj⟩
/-- A function value against nil. -/
theorem run_equalIn_func_nil {P : Program} (w : World) (d : Nat) (t : TypeId) {ps rs : Array TypeId} {vr : Bool} (f : Fn) (a b : Array Value) (h : P.underlying t = some (.func ps rs vr)) :
    (Op.equalIn (d + 1) t (.func f a b) .nilFunc).run P w = .ok false w := by
  simp [Op.equalIn, run_underlying h]
theorem run_eql_func_nil {P : Program} (w : World) (t : TypeId) {ps rs : Array TypeId} {vr : Bool} (f : Fn) (a b : Array Value) (h : P.underlying t = some (.func ps rs vr)) :
    (binOp .eql t (.func f a b) .nilFunc).run P w = .ok (.bool false) w := by
  simp only [binOp]
  simp [show Op.equal t (.func f a b) .nilFunc = Op.equalIn (9999 + 1) t (.func f a b) .nilFunc from rfl, run_equalIn_func_nil w 9999 t f a b h]
/-- The frame of PoolLevels at the head of its loop. -/
def lvF (v0 v1 : Value) (q4 b k : Nat) (u : Nat → Value) : Array Value := #[v0, v1, u 2, u 3, .pointer (some ⟨q4, 0, none⟩), .pointer (some ⟨b, 0, none⟩), .int .i64 0, .int .i64 (k : Int), u 8, u 9, u 10, u 11, u 12, u 13, u 14, u 15, u 16, u 17, u 18, u 19, u 20, u 21, u 22, u 23, u 24, u 25, u 26, u 27, u 28, u 29, u 30, u 31, u 32, u 33, u 34, u 35, u 36, u 37, u 38, u 39, u 40, u 41, u 42, u 43, u 44, u 45, u 46, u 47, u 48, u 49, u 50, u 51, u 52, u 53, u 54, u 55, u 56, u 57, u 58, u 59, u 60, u 61, u 62, u 63, u 64, u 65, u 66, u 67, u 68, u 69, u 70, u 71, u 72, u 73, u 74, u 75, u 76, u 77, u 78, u 79, u 80, u 81, u 82, u 83, u 84, u 85, u 86, u 87, u 88, u 89, u 90, u 91, u 92, u 93, u 94, u 95, u 96, u 97, u 98, u 99, u 100, u 101, u 102, u 103, u 104, u 105, u 106, u 107, u 108, u 109, u 110, u 111, u 112, u 113, u 114, u 115, u 116, u 117, u 118, u 119, u 120, u 121, u 122, u 123, u 124, u 125, u 126, u 127, u 128, u 129, u 130, u 131, u 132, u 133, u 134, u 135]
def LvI (v0 v1 : Value) (w : World) (b g cap : Nat) (L : List KA) (m : Nat) (a : Act) (W : World) : Prop :=
  ∃ (k : Nat) (Ds : List Nat) (l : List Blk) (u : Nat → Value), k + m = L.length ∧ a = { tmps := lvF v0 v1 w.heap.size b k u, defers := Ds.map mrk } ∧ WM w.heap.size (w.alloc (.cells #[.bool false] 4)) b g cap l Ds W
theorem LvI.mk' {v0 v1 : Value} {w : World} {b g cap : Nat} {L : List KA} {m k : Nat} {W : World} {Ds : List Nat} {l : List Blk} {tm : Array Value} {ds : List Deferred} (h1 : k + m = L.length) (h2 : tm = lvF v0 v1 w.heap.size b k (fun i => tm.getD i undef)) (h3 : ds = Ds.map mrk) (h4 : WM w.heap.size (w.alloc (.cells #[.bool false] 4)) b g cap l Ds W) :
    LvI v0 v1 w b g cap L m { tmps := tm, defers := ds } W := ⟨k, Ds, l, _, h1, by rw [h3, ← h2], h4⟩
theorem acts_at {w : World} {A : Option Addr} {n c : Nat} {L : List KA} (h : Acts w (.slice A n c) L) : n = L.length ∧ (0 < L.length → ∃ g o, A = some ⟨g, o, none⟩ ∧ g < w.heap.size ∧ ∀ j (hj : j < L.length), w.cell? ⟨g, o + j * 4, none⟩ = some (.int .i64 L[j].wh) ∧ w.cell? ⟨g, o + j * 4 + 1, none⟩ = some (.int .i64 L[j].bl) ∧ w.cell? ⟨g, o + j * 4 + 2, none⟩ = some (.int .i64 L[j].st) ∧ w.cell? ⟨g, o + j * 4 + 3, none⟩ = some (.int .i64 L[j].er)) := by
  obtain ⟨A', c', e, hr⟩ := h
  simp only [Value.slice.injEq] at e
  obtain ⟨rfl, rfl, rfl⟩ := e
  exact ⟨rfl, hr⟩
theorem res6 (W' : World) (q : Nat) (tm : Array Value) (htm : tm.getD 4 undef = .pointer (some ⟨q, 0, none⟩)) (h : W'.cell? ⟨q, 0, none⟩ = some (.bool true)) : (results Try.f6 tm).run Try.prog W' = .ok (.bool true) W' := by
  have e : tm[4]?.getD undef = .pointer (some ⟨q, 0, none⟩) := by simpa using htm
  simp [results, Try.results6, go_sem, h, e]
theorem lv_off {W W2 : World} {b g b' g' cap' : Nat} {l : List Blk} {cs : Array Value} (hb : b < W.heap.size + 1) (hg : g < W.heap.size + 1) (hp : Pl W2 (W.alloc (.cells cs 37)).heap.size b' g' cap' l) (hs : (W.alloc (.cells cs 37)).heap.size ≤ W2.heap.size) : ∀ k, Ft b' g' k → ¬ Ft b g k := fun k hk hk2 => by
  have := hp.ft_ge hk
  simp at this
  rcases hk2 with rfl | rfl <;> omega
theorem lv_box {W W2 W4 : World} {b g : Nat} {v : Value} {cs : Array Value} (hb : b < W.heap.size + 1) (hg : g < W.heap.size + 1) (hs : (W.alloc (.cells cs 37)).heap.size ≤ W2.heap.size) (hc : Chg (Ft b g) (W2.alloc (.cells #[v] 25)) W4) : Bx1 W4 W2.heap.size 25 v :=
  (hc.block _ (by simp) (fun h => by simp at hs; rcases h with h | h <;> omega)).trans (Bx1.new W2 25 v)
theorem levels_main (A0 A1 : Option Addr) (n1 c0 c1 : Nat) (xs : List Int) (L : List KA) (w : World) (h0 : Ints w (.slice A0 xs.length c0) xs) (h1 : Acts w (.slice A1 n1 c1) L) (hx1 : 1 ≤ xs.length) (hx2 : xs.length ≤ 20) (hL : L.length ≤ 50) (he : erAll xs = true) :
    Calls Try.prog 6 #[.slice A0 xs.length c0, .slice A1 n1 c1] w (OkB w) := by
  obtain ⟨rfl, hr⟩ := acts_at h1
  have bE := below_alloc w (.cells #[.bool false] 4)
  have HN := Lib.hid (new_ws (w := w.alloc (.cells #[.bool false] 4)) (.slice A0 xs.length c0) xs (Below.refl _ _) (h0.below bE) hx1 (by omega) he)
  have hqn := fun (W : World) (f : Fn) (x y : Array Value) => run_eql_func_nil (P := Try.prog) W 42 f x y Try.underlying42
  have hL2 : ¬ (50 : Int) < L.length := by omega
  have hx3 : ¬ (20 : Int) < xs.length := by omega
  have HL := Lib.hid hL
  have HR := Lib.hid hr
  have HE := Lib.hid bE
  have f9 : Fence.wide.fn 9 := trivial
  have f11 : Fence.wide.fn 11 := trivial
  have f8 : Fence.wide.fn 8 := trivial
  clear h0 h1 hr he hx1 hx2 hL bE
  refine (callsIn_wide (n := 9)).1 ?_
  refine callsIn_of_wp_marks Try.func6 rfl trivial ?_ rfl
  simp only [Try.ntmps6, List.size_toArray, List.length_cons, List.length_nil, Nat.reduceAdd, Nat.reduceSub, Array.replicate_succ, Array.replicate_zero, List.push_toArray, List.append_toArray, List.nil_append, List.cons_append]
  gi_wp2_with (first
    | (gi_at_call 9; refine (callsIn_wide.2 HN.out).mono ?_; rintro e W0 ⟨b, g, cap, rfl, h⟩; have S0 := Lib.hid h; clear h)
    | (gi_at_call 11; refine (callsIn_wide.2 (num_any _ _)).mono ?_; rintro e w' ⟨rfl, rfl⟩))
  refine loop_down (LvI (.slice A0 xs.length c0) (.slice A1 L.length c1) w b g cap L) (fun a _ => L.length - (RowKit.intOf (a.tmps.getD 7 undef)).toNat) ?hmu L.length ?h0 ?round
  case hmu =>
    rintro m a W ⟨k, Ds, l, u, h1, rfl, _⟩
    simp [lvF, RowKit.intOf]
    omega
  case h0 => exact LvI.mk' (k := 0) (Ds := []) (by omega) rfl rfl ⟨S0.out, Marks.nil _ _⟩
  case round =>
    rintro m a W ⟨k, Ds, l, u, hkm, rfl, hwm⟩ K hK
    have HK := Lib.hid hK
    have HWM := Lib.hid hwm
    have hq4 : Bx1 W w.heap.size 4 (.bool false) := (hwm.1.2.block _ (by simp)).trans (heap_alloc_new w _)
    have HQ4 := Lib.hid hq4
    have HB := Lib.hid (HE.out.trans (hwm.1.2.mono HE.out.size))
    have c4 := hq4.cell
    have f4 := hq4.free
    have hk50 : (k : Int) ≤ 50 := by have := HL.out; omega
    have HKM := Lib.hid hkm
    simp only [lvF]
    clear hK hwm hq4 HN S0
    by_cases hlt : k < L.length
    · obtain ⟨ga, o, rfl, hga, hcell⟩ := HR.out (by omega)
      obtain ⟨a0, a1, a2, a3⟩ := hcell k hlt
      have a0 := (HB.out.cell (p := ⟨ga, o + k * 4, none⟩) hga).trans a0
      have a1 := (HB.out.cell (p := ⟨ga, o + k * 4 + 1, none⟩) hga).trans a1
      have a2 := (HB.out.cell (p := ⟨ga, o + k * 4 + 2, none⟩) hga).trans a2
      have a3 := (HB.out.cell (p := ⟨ga, o + k * 4 + 3, none⟩) hga).trans a3
      generalize L[k] = x at *
      obtain ⟨wh, bl, st, er⟩ := x
      dsimp only at a0 a1 a2 a3
      have HW1 := Lib.hid (HWM.out.later (below_alloc W (.cells #[.int .i64 wh, .int .i64 bl, .int .i64 st, .int .i64 er] 37)))
      clear hcell HR
      have HF0 := Lib.hid (fun W' l' Ds' (h : WM w.heap.size (w.alloc (.cells #[.bool false] 4)) b g cap l' Ds' W') tm ds h2 h3 => HK.out (m - 1) _ W' (by omega) (LvI.mk' (L := L) (k := k + 1) (m := m - 1) (tm := tm) (ds := ds) (Ds := Ds') (by omega) h2 h3 h))
      by_cases hop : wh = 0 ∨ wh = 1
      · have f25 : Fence.wide.fn 25 := trivial
        have f16 : Fence.wide.fn 16 := trivial
        have f26 : Fence.wide.fn 26 := trivial
        have f17 : Fence.wide.fn 17 := trivial
        have f24 : Fence.wide.fn 24 := trivial
        have f14 : Fence.wide.fn 14 := trivial
        have HCP := Lib.hid (Copy_any HW1.out.1.1)
        have hblt : b < W.heap.size + 1 := by have := HW1.out.1.1.lt; simpa using this
        have hglt : g < W.heap.size + 1 := by have := HW1.out.1.1.row.lt; simpa using this
        have HBL := Lib.hid hblt
        have HGL := Lib.hid hglt
        clear hblt hglt
        cases hf : (lwc l 1).2.2
        · have HTK := Lib.hid (fun W' (h : WM w.heap.size (w.alloc (.cells #[.bool false] 4)) b g cap l Ds W') => (show Calls Try.prog 17 #[.pointer (some ⟨b, 0, none⟩)] W' fun e w' => e = .returned (.tuple #[.int .i64 0, .int .i64 9]) ∧ WM w.heap.size (w.alloc (.cells #[.bool false] 4)) b g cap l Ds w' from
            (wm_take h).mono fun e w' ⟨a1, a2, _⟩ => by
              unfold tkE at a1
              unfold tkS at a2
              rw [hf, lwc_no hf] at a1
              rw [hf] at a2
              exact ⟨a1, a2⟩))
          have hcn := cnt_none hf
          have HCT := Lib.hid (fun (base b' g' cap' : Nat) (W' : World) (h : Pl W' base b' g' cap' l) => (show Calls Try.prog 26 #[.pointer (some ⟨b', 0, none⟩), .int .i64 1] W' fun e w' => e = .returned (.int .i64 0) ∧ W' = w' from by have := Count_any h 1; rwa [hcn] at this))
          clear hf hcn
          rcases hop with rfl | rfl
          all_goals
            gi_wp2_with (first
              | (gi_at_call 16; refine (callsIn_wide.2 HCP.out).mono ?_; rintro e W2 ⟨b', g', cap', rfl, hp, hb⟩; have HW3 := Lib.hid ((HW1.out.later hb).later (below_alloc W2 (.cells #[.pointer (some ⟨b', 0, none⟩)] 25))); have HP3 := Lib.hid (hp.below (below_alloc W2 (.cells #[.pointer (some ⟨b', 0, none⟩)] 25))); clear hp hb)
              | (gi_at_call 26; refine (callsIn_wide.2 (HCT.out _ _ _ _ _ HP3.out)).mono ?_; rintro e w' ⟨rfl, rfl⟩)
              | (gi_at_call 17; refine (callsIn_wide.2 (HTK.out _ HW3.out)).mono ?_; rintro e W4 ⟨rfl, hwm⟩; have HW4 := Lib.hid (hwm.later (below_alloc W4 (.cells #[.int .i64 0] 3))); clear hwm))
            exact HF0.out _ _ _ HW4.out _ _ rfl rfl
        · obtain ⟨hj, hj2, hin, hj3, hmin⟩ := (lwc_ok l 1).2 hf
          have hst : l[(lwc l 1).1].st = 1 := of_decide_eq_true hin
          have hTK : ∀ W' (h : WM w.heap.size (w.alloc (.cells #[.bool false] 4)) b g cap l Ds W'), Calls Try.prog 17 #[.pointer (some ⟨b, 0, none⟩)] W' fun e w' => e = .returned (.tuple #[.int .i64 ((lwc l 1).1 : Int), .int .i64 0]) ∧ WM w.heap.size (w.alloc (.cells #[.bool false] 4)) b g cap (l.set (lwc l 1).1 ⟨ers l ((lwc l 1).1 : Int), 2⟩) Ds w' ∧ Chg (Ft b g) W' w' := fun W' h =>
            (wm_take h).mono fun e w' ⟨a1, a2, a3⟩ => by
              unfold tkE at a1
              unfold tkS at a2
              rw [hf] at a1 a2
              exact ⟨a1, a2, a3⟩
          have hS1 : ∀ base b' g' cap' W', Pl W' base b' g' cap' l → Calls Try.prog 24 #[.pointer (some ⟨b', 0, none⟩), .int .i64 ((lwc l 1).1 : Int)] W' fun e w' => e = .returned (.int .i64 1) ∧ W' = w' := fun base b' g' cap' W' h => by
            have := State_any h ((lwc l 1).1 : Int)
            rwa [sta_nat hj, hst] at this
          have hC1 : ∀ base b' g' cap' W', Pl W' base b' g' cap' l → Calls Try.prog 26 #[.pointer (some ⟨b', 0, none⟩), .int .i64 1] W' fun e w' => e = .returned (.int .i64 (cnt l 1)) ∧ W' = w' := fun base b' g' cap' W' h => Count_any h 1
          have hE1 : ∀ base b' g' cap' W', Pl W' base b' g' cap' l → Calls Try.prog 25 #[.pointer (some ⟨b', 0, none⟩), .int .i64 ((lwc l 1).1 : Int)] W' fun e w' => e = .returned (.int .i64 (ers l ((lwc l 1).1 : Int))) ∧ W' = w' := fun base b' g' cap' W' h => Erases_any h _
          have hS2 : ∀ W', WM w.heap.size (w.alloc (.cells #[.bool false] 4)) b g cap (l.set (lwc l 1).1 ⟨ers l ((lwc l 1).1 : Int), 2⟩) Ds W' → Calls Try.prog 24 #[.pointer (some ⟨b, 0, none⟩), .int .i64 ((lwc l 1).1 : Int)] W' fun e w' => e = .returned (.int .i64 2) ∧ W' = w' := fun W' h => by
            have := State_any h.1.1 ((lwc l 1).1 : Int)
            rwa [sta_nat (by rw [List.length_set]; exact hj), List.getElem_set_self] at this
          have hC2 : ∀ W', WM w.heap.size (w.alloc (.cells #[.bool false] 4)) b g cap (l.set (lwc l 1).1 ⟨ers l ((lwc l 1).1 : Int), 2⟩) Ds W' → Calls Try.prog 26 #[.pointer (some ⟨b, 0, none⟩), .int .i64 1] W' fun e w' => e = .returned (.int .i64 (cnt l 1 - 1)) ∧ W' = w' := fun W' h => by
            have := Count_any h.1.1 1
            rw [cnt_set l _ hj, hst] at this
            simpa using this
          have hM : ∀ i (hi : i < (fl l 1).length), ers l ((lwc l 1).1 : Int) ≤ flE l 1 i ∧ (flI l 1 i < (lwc l 1).1 → ers l ((lwc l 1).1 : Int) < flE l 1 i) := fun i hi => by
            obtain ⟨h1, h2, h3⟩ := fl_mem hi
            have := hmin (flI l 1 i) h1 h1 (by simp [eqB, h2])
            rw [ers_nat hj, h3]
            exact this
          have hn1 : 1 ≤ cnt l 1 := by have := cnt_pos hj; rwa [hst] at this
          have hn2 : cnt l 1 ≤ 4096 := by have := cnt_le l 1; have := HW1.out.1.1.fit.len; omega
          have HTK := Lib.hid hTK
          have HS1 := Lib.hid hS1
          have HC1 := Lib.hid hC1
          have HE1 := Lib.hid hE1
          have HS2 := Lib.hid hS2
          have HC2 := Lib.hid hC2
          have HM := Lib.hid hM
          generalize l.set (lwc l 1).1 ⟨ers l ((lwc l 1).1 : Int), 2⟩ = l' at *
          generalize ers l ((lwc l 1).1 : Int) = e0 at *
          clear hmin hst hin hj2 hj3 hj hTK hS1 hC1 hE1 hS2 hC2 hM hf
          generalize (lwc l 1).1 = kk at *
          generalize cnt l 1 = nn at *
          rcases hop with rfl | rfl
          all_goals
            gi_wp2_with (first
              | (gi_at_call 16; refine (callsIn_wide.2 HCP.out).mono ?_; rintro e W2 ⟨b', g', cap', rfl, hp, hb⟩; have HW3 := Lib.hid ((HW1.out.later hb).later (below_alloc W2 (.cells #[.pointer (some ⟨b', 0, none⟩)] 25))); have HP2 := Lib.hid hp; have HP3 := Lib.hid (hp.below (below_alloc W2 (.cells #[.pointer (some ⟨b', 0, none⟩)] 25))); have HS2' := Lib.hid hb.size; clear hp hb)
              | (gi_at_call 26; ((with_reducible refine (callsIn_wide.2 (HC1.out _ _ _ _ _ HP3.out)).mono ?_); rintro e w' ⟨rfl, rfl⟩))
              | (gi_at_call 17; refine (callsIn_wide.2 (HTK.out _ HW3.out)).mono ?_; rintro e W4 ⟨rfl, hwm, hch⟩; have HW5 := Lib.hid (hwm.later (below_alloc W4 (.cells #[.int .i64 (kk : Int)] 3))); have HP4 := Lib.hid (HP3.out.chg hch (lv_off (W := W) (W2 := W2) HBL.out HGL.out HP2.out HS2'.out)); have HX4 := Lib.hid (lv_box (W := W) HBL.out HGL.out HS2'.out hch); have c9 := HX4.out.cell; have c9n := HX4.out.lt; have HX5 := Lib.hid (HX4.out.below (below_alloc W4 (.cells #[.int .i64 (kk : Int)] 3))); have c9b := HX5.out.cell; have HP5 := Lib.hid (HP4.out.below (below_alloc W4 (.cells #[.int .i64 (kk : Int)] 3))); have HSZ := Lib.hid hch.size; clear hwm hch)
              | (gi_at_call 24; ((with_reducible refine (callsIn_wide.2 (HS1.out _ _ _ _ _ HP5.out)).mono ?_); rintro e w' ⟨rfl, rfl⟩))
              | (gi_at_call 24; ((with_reducible refine (callsIn_wide.2 (HS2.out _ HW5.out)).mono ?_); rintro e w' ⟨rfl, rfl⟩))
              | (gi_at_call 26; ((with_reducible refine (callsIn_wide.2 (HC2.out _ HW5.out)).mono ?_); rintro e w' ⟨rfl, rfl⟩))
              | (gi_at_call 11; refine (callsIn_wide.2 (num_any _ _)).mono ?_; rintro e w' ⟨rfl, rfl⟩)
              | (gi_at_call 14; refine (callsIn_wide.2 (Blocks_any HP5.out 1)).mono ?_; rintro e W6 ⟨B5, B3, rfl, hb6, hy6⟩; have HB6 := Lib.hid hb6; have HY6 := Lib.hid hy6; clear hb6 hy6))
            have hx6 := HX5.out.below HB6.out
            have hk6 : Bx1 W6 W4.heap.size 3 (.int .i64 (kk : Int)) := (Bx1.new W4 3 _).below HB6.out
            have hp6 := (HP5.out.below HB6.out).rebase (Nat.zero_le _)
            have hw6 := HW5.out.later HB6.out
            have HDs := Lib.hid (fun D hD => hw6.2.lt (D := D) hD)
            have HES := Lib.hid hw6.1.2.size
            have HEW := Lib.hid HE.out.size
            refine range_asg (gf := 39) (fun x y t => (((t.setIfInBounds 116 x).setIfInBounds 117 y).setIfInBounds 14 x).setIfInBounds 15 y) rfl (enters_of Try.func39 (by kernel_rfl) rfl) (HY6.out (fun _ => False) _ W6 (Below.refl _ _) (fun _ h => h.elim))
              (fun _ W' => Pl W' 0 b' g' cap' l ∧ Bx1 W' W2.heap.size 25 (.pointer (some ⟨b', 0, none⟩)) ∧ Bx1 W' W4.heap.size 3 (.int .i64 (kk : Int)) ∧ WM w.heap.size (w.alloc (.cells #[.bool false] 4)) b g cap l' Ds W')
              (fun _ _ _ => False) (fun j X Y row hs hg hr => ⟨own_pl _ () X Y row hs.1 hg hr, own_bx _ () X Y row hs.2.1 hg hr, own_bx _ () X Y row hs.2.2.1 hg hr, own_ws HES.out () X Y row hs.2.2.2.1 hg hr, own_marks HDs.out () X Y row hs.2.2.2.2 hg hr⟩) (fun c j X Y row hs _ _ => hs) ⟨hp6, hx6, hk6, hw6⟩ ?assign ?body ?done ?stop
            case assign =>
              intro l'' j W' K' hK'
              gi_wp2
              exact hK'
            case body =>
              rintro l'' j hj W' ⟨hp, hx, hk, hwm⟩
              obtain ⟨hm1, hm2⟩ := HM.out j hj
              have c9' := hx.cell
              have c11' := hk.cell
              have HEE := Lib.hid (HE1.out _ _ _ _ _ hp)
              have HFF := Lib.hid (show KeepsFrom W6.heap.size W' W' ∧ Kc (fun _ => False) W' W' ∧ Pl W' 0 b' g' cap' l ∧ Bx1 W' W2.heap.size 25 (.pointer (some ⟨b', 0, none⟩)) ∧ Bx1 W' W4.heap.size 3 (.int .i64 (kk : Int)) ∧ WM w.heap.size (w.alloc (.cells #[.bool false] 4)) b g cap l' Ds W' from ⟨KeepsFrom.refl _ _, Kc.refl _ _, hp, hx, hk, hwm⟩)
              clear hp hx hk hwm hx6 hk6 hp6 hw6 c9 c9b
              generalize flE l 1 j = ee at *
              generalize flI l 1 j = ii at *
              by_cases heq : ee = e0
              · subst heq
                have hni : ¬ ii < kk := fun h => by have := hm2 h; omega
                have hni2 : ¬ (ii : Int) < (kk : Int) := by omega
                have hni3 : decide (ii < kk) = false := decide_eq_false hni
                clear hm1 hm2
                gi_wp2_with (gi_at_call 25; refine (CallsIn.inRound l'' (callsIn_wide.2 HEE.out)).mono ?_; rintro e w' ⟨rfl, rfl⟩)
                exact HFF.out
              · have hne1 : ¬ ee < e0 := by omega
                have hne2 : (ee == e0) = false := by rw [beq_eq_false_iff_ne]; exact heq
                have hne3 : decide (ee < e0) = false := decide_eq_false hne1
                have hne4 : decide (ee = e0) = false := decide_eq_false heq
                clear hm1 hm2
                gi_wp2_with (gi_at_call 25; refine (CallsIn.inRound l'' (callsIn_wide.2 HEE.out)).mono ?_; rintro e w' ⟨rfl, rfl⟩)
                exact HFF.out
            case done =>
              rintro D W7 hD ⟨hp, hx, hk, hwm⟩ hd
              have hwm7 := (show WM w.heap.size (w.alloc (.cells #[.bool false] 4)) b g cap l' (D :: Ds) W7 from ⟨hwm.1, hwm.2.cons (n1 := W6.heap.size) (by have := HES.out; have := HEW.out; omega) hD HDs.out hd⟩)
              have HW7 := Lib.hid hwm7
              clear hwm7 hp hx hk hwm hd
              gi_wp2
              exact HF0.out _ _ _ HW7.out _ _ rfl rfl
            case stop =>
              rintro D c j W7 _ _ hf
              exact hf.elim
      · have n0 : ¬ wh = 0 := by omega
        have n1 : ¬ wh = 1 := by omega
        have e0 : (wh == 0) = false := by rw [beq_eq_false_iff_ne]; omega
        have e1 : (wh == 1) = false := by rw [beq_eq_false_iff_ne]; omega
        have d0 : decide (wh = 0) = false := decide_eq_false (by omega)
        have d1 : decide (wh = 1) = false := decide_eq_false (by omega)
        have b0 : (wh != 0) = true := by simpa using n0
        have b1 : (wh != 1) = true := by simpa using n1
        have f20 : Fence.wide.fn 20 := trivial
        have f21 : Fence.wide.fn 21 := trivial
        have f23 : Fence.wide.fn 23 := trivial
        have HF := Lib.hid (fun W' l' (h : WM w.heap.size (w.alloc (.cells #[.bool false] 4)) b g cap l' Ds W') tm h2 => HK.out (m - 1) _ W' (by omega) (LvI.mk' (L := L) (k := k + 1) (m := m - 1) (tm := tm) (Ds := Ds) (by omega) h2 rfl h))
        clear hop
        by_cases h4 : wh < 4
        · gi_wp2_with (gi_at_call 20; refine (callsIn_wide.2 (wm_close HW1.out bl)).mono ?_; rintro e W2 ⟨v, rfl, h⟩; have HW2 := Lib.hid h; clear h)
          exact HF.out _ _ HW2.out _ rfl
        · by_cases h6 : wh < 6
          · gi_wp2_with (gi_at_call 21; refine (callsIn_wide.2 (wm_rel HW1.out bl)).mono ?_; rintro e W2 ⟨v, rfl, h⟩; have HW2 := Lib.hid h; clear h)
            exact HF.out _ _ HW2.out _ rfl
          · gi_wp2_with (gi_at_call 23; refine (callsIn_wide.2 (wm_set HW1.out bl st er)).mono ?_; rintro e W2 ⟨v, rfl, h⟩; have HW2 := Lib.hid h; clear h)
            exact HF.out _ _ HW2.out _ rfl
    · have hkl : k = L.length := by omega
      subst hkl
      have HW := Lib.hid (works_any W)
      clear HR
      gi_wp2_with (gi_at_call 8; refine (callsIn_wide.2 HW.out).mono ?_; rintro e W2 ⟨rfl, hb⟩; have HB2 := Lib.hid hb; obtain ⟨c8, f8'⟩ := (⟨(HQ4.out.below hb).cell, (HQ4.out.below hb).free⟩ : _ ∧ _); clear hb)
      exact law_true (q := w.heap.size) (HWM.out.2.below HB2.out) (HB.out.trans (HB2.out.mono HB.out.size)) (HQ4.out.below HB2.out) (Nat.le_refl _) fun W' h => res6 W' _ _ rfl h
end Go.Proofs.Ytpojgjbgbbnojaa
