/- MinFunc of records; the closure that takes a record. Conditions stand in each theorem. -/
import Derived.Test.YtajlddgemkkcdaaS
import Derived.Laws.Tables
namespace Go.Proofs.Ytajlddgemkkcdaa
open Go.RowKit
set_option linter.unusedVariables false
set_option maxHeartbeats 4000000
set_option maxRecDepth 100000
attribute [local go_sem ↓ 100000] builtin_appX
theorem LoAt.below {W W' : World} {g o : Nat} {r : Loc} (h : LoAt W g o r) (hg : g < W.heap.size) (hb : Below W.heap.size W W') : LoAt W' g o r :=
  ⟨(hb.cell (p := ⟨g, _, none⟩) hg).trans h.c0, (hb.cell (p := ⟨g, _, none⟩) hg).trans h.c1, (hb.cell (p := ⟨g, _, none⟩) hg).trans h.c2, (hb.cell (p := ⟨g, _, none⟩) hg).trans h.c3, (hb.cell (p := ⟨g, _, none⟩) hg).trans h.c4, (hb.cell (p := ⟨g, _, none⟩) hg).trans h.c5⟩
theorem size78 : (Try.prog.info? 78).map (·.size) = some 6 := by kernel_rfl
theorem row_one (x : Loc) : x.row.all (·.oneCell') = true := by simp [Value.oneCell']
theorem LoAt.row {W : World} {g : Nat} {x : Loc} (h : W.heap[g]? = some (.cells x.row 78 (0, 0))) : LoAt W g 0 x := by
  refine ⟨?_, ?_, ?_, ?_, ?_, ?_⟩ <;> (rw [cell_of_row _ _ _ _ _ _ h]; rfl)
theorem setRow_at {W : World} {g : Nat} {cs old : Array Value} {t : TypeId} (hg : W.heap[g]? = some (.cells old t (0, 0))) : (W.setRow g cs).heap[g]? = some (.cells cs t (0, 0)) := setRow_heap W g old cs t (0, 0) hg
theorem setRow_below {B : Nat} {W w : World} {g : Nat} {cs : Array Value} (hb : Below B W w) (h : B ≤ g) : Below B W (w.setRow g cs) :=
  ⟨hb.os, hb.tape, hb.output, by rw [size_setRow]; exact hb.size, fun k hk => (setRow_other w g k cs (by omega)).trans (hb.block k hk)⟩
/-- What MinFunc leaves. -/
def MnPost (w : World) (L : List Loc) (e : Ending) (w' : World) : Prop := (∃ x, x ∈ L ∧ e = .returned x.v ∧ ∀ y ∈ L, ¬ NewLt y x) ∧ Below w.heap.size w w'
theorem min_any (W : World) (base : Nat) (A : Option Addr) (c : Nat) (L : List Loc) (hA : Own6 W base (.slice A L.length c) L) (hl : L.length ≤ 50000) (h0 : 0 < L.length) : Calls Try.prog 36 #[.slice A L.length c, .func (.func 37) #[] #[]] W (MnPost W L) := by
  have HA := Lib.hid hA
  have hlen : (L.length : Int) ≤ 50000 := by omega
  have hl1 : (1 : Int) ≤ (L.length : Int) := by omega
  obtain ⟨g, c', he, hbg, hgl, hr0⟩ := hA.at_ h0
  injection he with he1 _ he2
  subst he1 he2
  have HAT : Hid (∀ k (hk : k < L.length), LoAt W g (k * 6) L[k]) := Lib.hid (fun k hk => by
    obtain ⟨g', c', he, _, _, hr⟩ := hA.at_ hk
    injection he with he1 _ _
    cases he1
    exact hr)
  clear hA
  rw [Nat.zero_mul] at hr0
  have HL0 : Hid (L[0] ∈ L) := Lib.hid (List.getElem_mem h0)
  have H00 : Hid (∀ j (hj : j < L.length), j < 1 → ¬ NewLt L[j] L[0]) := Lib.hid (fun j hj h => by
    obtain rfl : j = 0 := by omega
    unfold NewLt
    omega)
  obtain ⟨x0, hx0⟩ : ∃ x, x = L[0] := ⟨_, rfl⟩
  rw [← hx0] at hr0 HL0 H00
  clear hx0
  have c0 := hr0.c0
  have c1 := hr0.c1
  have c2 := hr0.c2
  have c3 := hr0.c3
  have c4 := hr0.c4
  have c5 := hr0.c5
  simp only [Nat.zero_add] at c1 c2 c3 c4 c5
  clear hr0
  have X0 := Lib.hid (fun w' : World => LoAt.new w' x0 78)
  obtain ⟨⟨xk, xf, xp, xn⟩, xe, xa, xl, xc⟩ := x0
  simp only [Loc.row, Loc.pl] at *
  have hd9 : decide ((L.length : Int) < 1) = false := decide_eq_false (by omega)
  have hrow0 : (((W.alloc (.cells #[.int .u8 0, .int .u64 0, .int .u64 0, .int .i64 0, .int .i64 0, .slice none 0 0] 78)).alloc (.cells #[.int .u8 xk, .int .u64 xf, .int .u64 xp, .int .i64 xn, .int .i64 xe, .slice xa xl xc] 78))).heap[W.heap.size]? = some (.cells #[.int .u8 0, .int .u64 0, .int .u64 0, .int .i64 0, .int .i64 0, .slice none 0 0] 78 (0, 0)) := heap_alloc2_old _ _ _
  have hrow1 : (((W.alloc (.cells #[.int .u8 0, .int .u64 0, .int .u64 0, .int .i64 0, .int .i64 0, .slice none 0 0] 78)).alloc (.cells #[.int .u8 xk, .int .u64 xf, .int .u64 xp, .int .i64 xn, .int .i64 xe, .slice xa xl xc] 78))).heap[W.heap.size + 1]? = some (.cells #[.int .u8 xk, .int .u64 xf, .int .u64 xp, .int .i64 xn, .int .i64 xe, .slice xa xl xc] 78 (0, 0)) := heap_alloc2_new _ _ _
  have hbw : Below W.heap.size W ((W.alloc (.cells #[.int .u8 0, .int .u64 0, .int .u64 0, .int .i64 0, .int .i64 0, .slice none 0 0] 78)).alloc (.cells #[.int .u8 xk, .int .u64 xf, .int .u64 xp, .int .i64 xn, .int .i64 xe, .slice xa xl xc] 78)) := ((Below.refl _ _).alloc (Nat.le_refl _) _).alloc (by simp) _
  have HR0 := Lib.hid hrow0
  have HR1 := Lib.hid hrow1
  have HBW := Lib.hid hbw
  clear hrow0 hrow1 hbw
  go_enter Try.func36, Try.ntmps36
  go_upto_region 5 with fail
  clear c0 c1 c2 c3 c4 c5 X0
  obtain ⟨W0, hW0⟩ : ∃ W0, W0 = (W.alloc (.cells #[.int .u8 0, .int .u64 0, .int .u64 0, .int .i64 0, .int .i64 0, .slice none 0 0] 78)).alloc (.cells #[.int .u8 xk, .int .u64 xf, .int .u64 xp, .int .i64 xn, .int .i64 xe, .slice xa xl xc] 78) := ⟨_, rfl⟩
  rw [← hW0] at HR0 HR1 HBW ⊢
  clear hW0
  go_loopw [6] (fun i wr => ∃ (k : Nat) (x : Loc), 1 ≤ k ∧ k ≤ L.length ∧ i = .int .i64 k ∧ Hid (x ∈ L) ∧ Hid (∀ j (hj : j < L.length), j < k → ¬ NewLt L[j] x) ∧ Hid (wr.heap[W.heap.size + 1]? = some (.cells x.row 78 (0, 0))) ∧ Hid (∃ row : Array Value, row.size = 6 ∧ wr.heap[W.heap.size]? = some (.cells row 78 (0, 0))) ∧ Hid (Below W.heap.size W wr)) (fun i _ => L.length - (RowKit.intOf i).toNat)
  case atStart => exact ⟨1, ⟨⟨xk, xf, xp, xn⟩, xe, xa, xl, xc⟩, Nat.le_refl _, by omega, rfl, HL0, H00, HR1, Lib.hid ⟨_, rfl, HR0.out⟩, HBW⟩
  case round =>
    obtain ⟨k, x, hk1, hk, rfl, HX, HJ, HRM, HRR, HB⟩ := hrel
    clear HR0 HR1 HBW HL0 H00
    by_cases hlt : k < L.length
    · have hk0 : (0 : Int) ≤ (k : Int) := by omega
      have hkl : (k : Int) < (L.length : Int) := by omega
      have hy0 := (HAT.out k hlt).below hgl HB.out
      have HYM : Hid (L[k] ∈ L) := Lib.hid (List.getElem_mem hlt)
      have HJ1 : Hid (∀ z, (∀ j (hj : j < L.length), j < k → ¬ NewLt L[j] z) → ¬ NewLt L[k] z → ∀ j (hj : j < L.length), j < k + 1 → ¬ NewLt L[j] z) := Lib.hid (fun z h1 h2 j hj h => by
        by_cases e : j = k
        · subst e; exact h2
        · exact h1 j hj (by omega))
      obtain ⟨y, hy⟩ : ∃ y, y = L[k] := ⟨_, rfl⟩
      rw [← hy] at hy0 HYM HJ1
      clear hy
      have HNW := Lib.hid (fun w' => newer_any y x w')
      have hm := LoAt.row HRM.out
      have hne := gw_ne wr
      have d0 := fun r : Gw wr => (hy0.gr r.h).c0
      have d1 := fun r : Gw wr => (hy0.gr r.h).c1
      have d2 := fun r : Gw wr => (hy0.gr r.h).c2
      have d3 := fun r : Gw wr => (hy0.gr r.h).c3
      have d4 := fun r : Gw wr => (hy0.gr r.h).c4
      have d5 := fun r : Gw wr => (hy0.gr r.h).c5
      have m0 := fun r : Gw wr => (hm.gr r.h).c0
      have m1 := fun r : Gw wr => (hm.gr r.h).c1
      have m2 := fun r : Gw wr => (hm.gr r.h).c2
      have m3 := fun r : Gw wr => (hm.gr r.h).c3
      have m4 := fun r : Gw wr => (hm.gr r.h).c4
      have m5 := fun r : Gw wr => (hm.gr r.h).c5
      simp only [Nat.zero_add] at m1 m2 m3 m4 m5
      have HY0 := Lib.hid hy0
      clear hm hy0
      by_cases hlt2 : newI y x < 0
      · have HNL : Hid (NewLt y x) := Lib.hid (newI_neg.1 hlt2)
        have hdc : decide (newI y x < 0) = true := decide_eq_true hlt2
        have HXY : Hid (∀ j (hj : j < L.length), j < k + 1 → ¬ NewLt L[j] y) := Lib.hid (HJ1.out y (fun j hj h => by
          have h1 := HJ.out j hj h
          have h2 := HNL.out
          unfold NewLt at *
          omega) (by unfold NewLt; omega))
        generalize newI y x = ni at *
        clear hlt2
        obtain ⟨⟨yk, yf, yp, yn⟩, ye, ya, yl, yc⟩ := y
        obtain ⟨⟨xk, xf, xp, xn⟩, xe, xa, xl, xc⟩ := x
        simp only [Loc.v, Loc.row, Loc.pl] at *
        go_wp2
        refine wp_region_gw (by kernel_rfl) (by kernel_rfl) ?_
        repeat (go_big_quiet_step ((go_at_call 37; exact gw_of _ (HNW.out _))))
        refine wpQuiet_nil ?_
        rintro w2 ⟨⟨_, hg2⟩, rfl⟩
        have e0 := hg2.cell HY0.out.c0
        have e1 := hg2.cell HY0.out.c1
        have e2 := hg2.cell HY0.out.c2
        have e3 := hg2.cell HY0.out.c3
        have e4 := hg2.cell HY0.out.c4
        have e5 := hg2.cell HY0.out.c5
        have hb2 := hg2.below
        have hrm2 := (hb2.block _ (Array.getElem?_eq_some_iff.1 HRM.out).1).trans HRM.out
        have HRM2 := Lib.hid hrm2
        have HBZ := Lib.hid hb2
        clear d0 d1 d2 d3 d4 d5 m0 m1 m2 m3 m4 m5 hne hg2 hrm2 hb2
        go_wp2_with (refine wpList_store_row rfl 78 _ _ rfl (W.heap.size + 1) #[.int .u8 yk, .int .u64 yf, .int .u64 yp, .int .i64 yn, .int .i64 ye, .slice ya yl yc] rfl rfl 78 _ HRM2.out size78 rfl (row_one ⟨⟨yk, yf, yp, yn⟩, ye, ya, yl, yc⟩) ?_)
        go_roundw
        case rel =>
          refine ⟨k + 1, ⟨⟨yk, yf, yp, yn⟩, ye, ya, yl, yc⟩, by omega, by omega, by go_num, HYM, HXY, ?_, ?_, ?_⟩
          · exact setRow_at HRM2.out
          · obtain ⟨row, hrs, hrr⟩ := HRR.out
            exact ⟨row, hrs, (setRow_other w2 _ _ _ (by omega)).trans ((HBZ.out.block _ (Array.getElem?_eq_some_iff.1 hrr).1).trans hrr)⟩
          · exact setRow_below (HB.out.trans (HBZ.out.mono HB.out.size)) (by omega)
        case measure => simp [RowKit.intOf]; omega
      · have HNL : Hid (¬ NewLt y x) := Lib.hid (fun h => hlt2 (newI_neg.2 h))
        have hdc : decide (newI y x < 0) = false := decide_eq_false hlt2
        have HXY : Hid (∀ j (hj : j < L.length), j < k + 1 → ¬ NewLt L[j] x) := Lib.hid (HJ1.out x HJ.out HNL.out)
        generalize newI y x = ni at *
        clear hlt2
        obtain ⟨⟨yk, yf, yp, yn⟩, ye, ya, yl, yc⟩ := y
        obtain ⟨⟨xk, xf, xp, xn⟩, xe, xa, xl, xc⟩ := x
        simp only [Loc.v, Loc.row, Loc.pl] at *
        go_wp2
        refine wp_region_gw (by kernel_rfl) (by kernel_rfl) ?_
        repeat (go_big_quiet_step ((go_at_call 37; exact gw_of _ (HNW.out _))))
        refine wpQuiet_nil ?_
        rintro w2 ⟨⟨_, hg2⟩, rfl⟩
        have hb2 := hg2.below
        have HBZ := Lib.hid hb2
        clear d0 d1 d2 d3 d4 d5 m0 m1 m2 m3 m4 m5 hne hg2 hb2
        go_wp2
        go_roundw
        case rel =>
          refine ⟨k + 1, ⟨⟨xk, xf, xp, xn⟩, xe, xa, xl, xc⟩, by omega, by omega, by go_num, HX, HXY, ?_, ?_, ?_⟩
          · exact (HBZ.out.block _ (Array.getElem?_eq_some_iff.1 HRM.out).1).trans HRM.out
          · obtain ⟨row, hrs, hrr⟩ := HRR.out
            exact ⟨row, hrs, (HBZ.out.block _ (Array.getElem?_eq_some_iff.1 hrr).1).trans hrr⟩
          · exact HB.out.trans (HBZ.out.mono HB.out.size)
        case measure => simp [RowKit.intOf]; omega
    · obtain rfl : k = L.length := by omega
      have hm := LoAt.row HRM.out
      have m0 := hm.c0
      have m1 := hm.c1
      have m2 := hm.c2
      have m3 := hm.c3
      have m4 := hm.c4
      have m5 := hm.c5
      simp only [Nat.zero_add] at m1 m2 m3 m4 m5
      clear hm
      obtain ⟨row, hrs, hrr⟩ := HRR.out
      have HRS := Lib.hid hrs
      have HRR2 := Lib.hid hrr
      clear hrs hrr HRR
      obtain ⟨⟨xk, xf, xp, xn⟩, xe, xa, xl, xc⟩ := x
      simp only [Loc.row, Loc.pl] at *
      go_wp2_with (refine wpList_store_row rfl 78 _ _ rfl W.heap.size #[.int .u8 xk, .int .u64 xf, .int .u64 xp, .int .i64 xn, .int .i64 xe, .slice xa xl xc] rfl rfl 78 _ HRR2.out size78 HRS.out (row_one ⟨⟨xk, xf, xp, xn⟩, xe, xa, xl, xc⟩) ?_)
      refine bodyPost_ret (results_cell_row rfl _ _ W.heap.size 78 #[.int .u8 xk, .int .u64 xf, .int .u64 xp, .int .i64 xn, .int .i64 xe, .slice xa xl xc] (0, 0) _ rfl (setRow_at HRR2.out) Try.underlying78 rfl (by kernel_rfl)) rfl ⟨⟨_, HX.out, rfl, fun y hy => ?_⟩, setRow_below HB.out (Nat.le_refl _)⟩
      obtain ⟨j, hj, rfl⟩ := List.mem_iff_getElem.1 hy
      exact HJ.out j hj hj
end Go.Proofs.Ytajlddgemkkcdaa
