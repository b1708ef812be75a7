/- The walk of PoolCopies. Conditions stand in each theorem. -/
import Derived.Test.YtpojgjbgbbnojaaVU
import Derived.Lib.MinMax
namespace Go.Proofs.Ytpojgjbgbbnojaa
open Go.RowKit Go.Shelf
attribute [local go_sem] Oper.semAt_some
set_option linter.unusedVariables false
set_option maxHeartbeats 8000000
set_option maxRecDepth 100000
theorem res4 (W' : World) (q : Nat) (tm : Array Value) (htm : tm.getD 8 undef = .pointer (some ⟨q, 0, none⟩)) (h : W'.cell? ⟨q, 0, none⟩ = some (.bool true)) : (results Try.f4 tm).run Try.prog W' = .ok (.bool true) W' := by
  have e : tm[8]?.getD undef = .pointer (some ⟨q, 0, none⟩) := by simpa using htm
  simp [results, Try.results4, go_sem, h, e]
def arg8 (e f : KA) : Value := .agg #[.int .i64 e.wh, .int .i64 e.bl, .int .i64 e.st, .int .i64 e.er, .int .i64 f.wh, .int .i64 f.bl, .int .i64 f.st, .int .i64 f.er]
theorem act_at {w : World} {base b g cap gr cr : Nat} {l : List Blk} (h : Pl w base b g cap l) (hr : Rf w gr l) (x : KA) : Calls Try.prog 12 #[.pointer (some ⟨b, 0, none⟩), .slice (some ⟨gr, 0, none⟩) l.length cr, .agg #[.int .i64 x.wh, .int .i64 x.bl, .int .i64 x.st, .int .i64 x.er]] w (AcP w base b g cap (nx l x)) := act_any h hr x
theorem arg_cells {E W : World} {q : Nat} {a0 a1 a2 a3 a4 a5 a6 a7 : Value} (h : E.heap[q]? = some (.cells #[a0, a1, a2, a3, a4, a5, a6, a7] 40 (0, 0))) (hb : Below E.heap.size E W) :
    (W.cell? ⟨q, 0, none⟩ = some a0 ∧ W.cell? ⟨q, 1, none⟩ = some a1 ∧ W.cell? ⟨q, 2, none⟩ = some a2 ∧ W.cell? ⟨q, 3, none⟩ = some a3) ∧ W.cell? ⟨q, 4, none⟩ = some a4 ∧ W.cell? ⟨q, 5, none⟩ = some a5 ∧ W.cell? ⟨q, 6, none⟩ = some a6 ∧ W.cell? ⟨q, 7, none⟩ = some a7 := by
  have h2 := (hb.block q (Array.getElem?_eq_some_iff.1 h).1).trans h
  have e := fun k => cell_of_row W q k _ 40 (0, 0) h2
  exact ⟨⟨e 0, e 1, e 2, e 3⟩, e 4, e 5, e 6, e 7⟩
theorem IntsB.chg {B : Nat} {S : Nat → Prop} {w W : World} {v : Value} {xs : List Int} (h : IntsB B w v xs) (hc : Chg S w W) (hS : ∀ g o c, v = .slice (some ⟨g, o, none⟩) xs.length c → ¬ S g) : IntsB B W v xs := by
  obtain ⟨A, c, e, h⟩ := h
  refine ⟨A, c, e, fun h0 => ?_⟩
  obtain ⟨g, o, e', hg, hg2, hcell⟩ := h h0
  exact ⟨g, o, e', hg, Nat.lt_of_lt_of_le hg2 hc.size, fun j hj => (hc.cell (p := ⟨g, o + j, none⟩) hg2 (hS g o c (by rw [e, e']))).trans (hcell j hj)⟩
theorem WS.pl {E W : World} {b g cap : Nat} {l : List Blk} (h : WS E b g cap l W) : Pl W E.heap.size b g cap l := h.1
theorem WS.bel {E W : World} {b g cap : Nat} {l : List Blk} (h : WS E b g cap l W) : Below E.heap.size E W := h.2
theorem WS.mv2 {E W W' : World} {b g cap : Nat} {l l' : List Blk} (h : WS E b g cap l W) (hp : Pl W' E.heap.size b g cap l') (hc : Chg (Ft b g) W W') : WS E b g cap l' W' := h.mv ⟨hp, hc⟩
theorem WS.second {E W W6 W7 : World} {b g cap b' g' cap' gr z : Nat} {l : List Blk} (hs : WS E b g cap l W) (hz : W.heap.size ≤ z) (hp6 : Pl W6 z b' g' cap' l) (hr6 : Rf W6 gr l) (hs6 : WS E b g cap l W6) (hc7 : Chg (Ft b g) W6 W7) : Pl W7 z b' g' cap' l ∧ Rf W7 gr l :=
  ⟨hp6.chg hc7 fun k hk hk2 => by have := hs.pl.ft_lt hk2; have := hp6.ft_ge hk; omega, hr6.keep (hc7.block gr hr6.lt (rf_ne hr6 hs6.pl))⟩
/-- What both calls leave, put together. -/
theorem cb_make {E W W3 W4 W6 W7 W8 : World} {b g cap b' g' cap' gr gx gy : Nat} {l l1 l2 : List Blk} {ys : List Int} {A : Option Addr} {c : Nat} (hs : WS E b g cap l W) (hr : Rf W gr l) (h3 : Below W.heap.size W W3) (h4 : Below W3.heap.size W3 W4) (hi : Ints W4 (.slice A (List.length ys) c) ys) (hnw : ∀ g o, A = some ⟨g, o, none⟩ → W3.heap.size ≤ g)
    (hp6 : Pl W6 (W4.alloc (.cells #[.slice A (List.length ys) c] 22)).heap.size b' g' cap' l) (h6 : Below (W4.alloc (.cells #[.slice A (List.length ys) c] 22)).heap.size (W4.alloc (.cells #[.slice A (List.length ys) c] 22)) W6)
    (hp7 : Pl W7 E.heap.size b g cap l1) (hr7 : Rf W7 gx l1) (hc7 : Chg (Ft b g) W6 W7) (hp8 : Pl W8 (W4.alloc (.cells #[.slice A (List.length ys) c] 22)).heap.size b' g' cap' l2) (hr8 : Rf W8 gy l2) (hc8 : Chg (Ft b' g') W7 W8) :
    CB E b g cap b' g' cap' gx gy l1 l2 W4.heap.size (.slice A (List.length ys) c) ys W8 := by
  have z4 : (W4.alloc (.cells #[.slice A (List.length ys) c] 22)).heap.size = W4.heap.size + 1 := World.size_alloc _ _
  have hbg : ∀ k, Ft b g k → k < W.heap.size := fun k hk => hs.1.ft_lt hk
  have hbg' : ∀ k, Ft b' g' k → W4.heap.size + 1 ≤ k := fun k hk => by have := hp6.ft_ge hk; omega
  have s3 := h3.size
  have s4 := h4.size
  have sE := hs.2.size
  have x6 : Bx1 W6 W4.heap.size 22 (.slice A (List.length ys) c) := (Bx1.new W4 22 _).below h6
  have hp7' : Pl W7 (W4.alloc (.cells #[.slice A (List.length ys) c] 22)).heap.size b' g' cap' l := hp6.chg hc7 fun k hk hk2 => by have := hbg k hk2; have := hbg' k hk; omega
  have li4 := IntsB.of hi
  have li6 : IntsB W4.heap.size W6 (.slice A (List.length ys) c) ys := (li4.below (below_alloc W4 _)).below h6
  have nS : ∀ gi o cc, Value.slice A (List.length ys) c = .slice (some ⟨gi, o, none⟩) (List.length ys) cc → ¬ Ft b g gi := fun gi o cc e hk => by
    simp only [Value.slice.injEq] at e
    have h1 := hnw gi o e.1
    have h2 := hbg gi hk
    omega
  have li7 := li6.chg hc7 nS
  have li8 : IntsB W4.heap.size W8 (.slice A (List.length ys) c) ys := by
    obtain ⟨A1, c1, e, hh⟩ := li7
    refine ⟨A1, c1, e, fun h0 => ?_⟩
    obtain ⟨gi, o, e', hg, hg2, hcell⟩ := hh h0
    exact ⟨gi, o, e', hg, Nat.lt_of_lt_of_le hg2 hc8.size, fun j hj => (hc8.cell (p := ⟨gi, o + j, none⟩) hg2 (fun hk => by have := hbg' gi hk; omega)).trans (hcell j hj)⟩
  have be6 : Below E.heap.size E W6 := (((hs.2.trans (h3.mono sE)).trans (h4.mono (by omega))).trans ((below_alloc W4 (.cells #[.slice A (List.length ys) c] 22)).mono (by omega))).trans (h6.mono (by omega))
  have be7 : Below E.heap.size E W7 := be6.trans (hc7.below be6.size fun k hk => hs.1.ft_ge hk)
  have be8 : Below E.heap.size E W8 := be7.trans (hc8.below be7.size fun k hk => by have := hbg' k hk; omega)
  refine ⟨hp7.chg hc8 fun k hk hk2 => ?_, hp8.rebase (by omega), hr7.keep (hc8.block gx hr7.lt (rf_ne hr7 hp7')), hr8, be8, ?_, li8⟩
  · have := hbg k hk; have := hbg' k hk2; omega
  · have hlt6 := x6.lt
    have hlt7 := Nat.lt_of_lt_of_le hlt6 hc7.size
    exact (hc8.block _ hlt7 fun hk => by have := hbg' _ hk; omega).trans ((hc7.block _ hlt6 fun hk => by have := hbg _ hk; omega).trans x6)
/-- What both calls leave of the iterator's blocks. -/
theorem kept3 {E W W3 W4 W6 W7 W8 : World} {b g cap b' g' cap' : Nat} {l : List Blk} {o : Obj} (hs : WS E b g cap l W) (h3 : Below W.heap.size W W3) (h4 : Below W3.heap.size W3 W4)
    (hp6 : Pl W6 (W4.alloc o).heap.size b' g' cap' l) (h6 : Below (W4.alloc o).heap.size (W4.alloc o) W6) (hc7 : Chg (Ft b g) W6 W7) (hc8 : Chg (Ft b' g') W7 W8) : W3.heap.size ≤ W8.heap.size ∧ ∀ k, W.heap.size ≤ k → k < W3.heap.size → W8.heap[k]? = W3.heap[k]? := by
  have z4 : (W4.alloc o).heap.size = W4.heap.size + 1 := World.size_alloc _ _
  have s3 := h3.size
  have s4 := h4.size
  have s6 := h6.size
  have s7 := hc7.size
  have s8 := hc8.size
  refine ⟨by omega, fun k hk hk3 => ?_⟩
  have e6 : W6.heap[k]? = W3.heap[k]? := (h6.block k (by omega)).trans (((below_alloc W4 o).block k (by omega)).trans (h4.block k hk3))
  have e7 : W7.heap[k]? = W6.heap[k]? := hc7.block k (by omega) fun hf => by have := hs.pl.ft_lt hf; omega
  exact (hc8.block k (by omega) fun hf => by have := hp6.ft_ge hf; omega).trans (e7.trans e6)
theorem mark1 {w E W : World} {D : Nat} (h : w.heap.size ≤ E.heap.size) (hb : Below E.heap.size E W) (hD : E.heap.size ≤ D) (hd : W.heap[D]? = some (.deferred (some []))) : Marks w.heap.size [D] W :=
  ⟨by simp, fun k hk => by rw [List.mem_singleton.1 hk]; exact ⟨by omega, hd⟩⟩
/-- The body up to the loop over the iterator. -/
theorem copies_main (A0 A1 : Option Addr) (n1 c0 c1 : Nat) (xs : List Int) (L : List KA) (e0 f0 : KA) (mny : Int) (w : World) (h0 : Ints w (.slice A0 xs.length c0) xs) (h1 : Acts w (.slice A1 n1 c1) L) (hx1 : 1 ≤ xs.length) (hx2 : xs.length ≤ 20) (hL : L.length ≤ 30) (he : erAll xs = true) :
    Calls Try.prog 4 #[.slice A0 xs.length c0, .slice A1 n1 c1, .agg #[.int .i64 e0.wh, .int .i64 e0.bl, .int .i64 e0.st, .int .i64 e0.er, .int .i64 f0.wh, .int .i64 f0.bl, .int .i64 f0.st, .int .i64 f0.er], .int .i64 mny] w (OkB w) := by
  obtain ⟨rfl, hr⟩ := acts_at h1
  obtain ⟨z3, bE, k6, x7, x8⟩ := cE_facts w e0 f0 mny
  have HN := Lib.hid (new_ws (w := cE w e0 f0 mny) (.slice A0 xs.length c0) xs (Below.refl _ _) (h0.below bE) hx1 (by omega) he)
  have HM := Lib.hid (fun W (hW : Below (cE w e0 f0 mny).heap.size (cE w e0 f0 mny) W) => (show Calls Try.prog 10 #[.slice A0 xs.length c0] W (RN W xs) from (rNew_any _ xs W ((h0.below bE).below hW) hx1 (by omega)).mono fun e w' h => by unfold RNP at h; rwa [if_pos he] at h))
  have hqn := fun (W : World) (f : Fn) (x y : Array Value) => run_eql_func_nil (P := Try.prog) W 42 f x y Try.underlying42
  have hL2 : ¬ (30 : Int) < L.length := by omega
  have hx3 : ¬ (20 : Int) < xs.length := by omega
  have HL := Lib.hid hL
  have HR := Lib.hid hr
  have HE := Lib.hid (show (cE w e0 f0 mny).heap.size = w.heap.size + 3 ∧ Below w.heap.size w (cE w e0 f0 mny) ∧ (cE w e0 f0 mny).heap[w.heap.size]? = some (.cells #[.int .i64 e0.wh, .int .i64 e0.bl, .int .i64 e0.st, .int .i64 e0.er, .int .i64 f0.wh, .int .i64 f0.bl, .int .i64 f0.st, .int .i64 f0.er] 40 (0, 0)) ∧ Bx1 (cE w e0 f0 mny) (w.heap.size + 1) 3 (.int .i64 mny) ∧ Bx1 (cE w e0 f0 mny) (w.heap.size + 2) 4 (.bool false) from ⟨z3, bE, k6, x7, x8⟩)
  have f9 : Fence.wide.fn 9 := trivial
  have f10 : Fence.wide.fn 10 := trivial
  have f11 : Fence.wide.fn 11 := trivial
  have f12 : Fence.wide.fn 12 := trivial
  have f13 : Fence.wide.fn 13 := trivial
  have f14 : Fence.wide.fn 14 := trivial
  have f15 : Fence.wide.fn 15 := trivial
  have f16 : Fence.wide.fn 16 := trivial
  have f8 : Fence.wide.fn 8 := trivial
  clear h0 h1 hr he hx1 hx2 hL z3 bE k6 x7 x8
  refine (callsIn_wide (n := 9)).1 ?_
  refine callsIn_of_wp_marks Try.func4 rfl trivial ?_ rfl
  simp only [Try.ntmps4, List.size_toArray, List.length_cons, List.length_nil, Nat.reduceAdd, Nat.reduceSub, Array.replicate_succ, Array.replicate_zero, List.push_toArray, List.append_toArray, List.nil_append, List.cons_append]
  gi_wp2_with fail
  rw [show ((w.alloc (.cells #[.int .i64 e0.wh, .int .i64 e0.bl, .int .i64 e0.st, .int .i64 e0.er, .int .i64 f0.wh, .int .i64 f0.bl, .int .i64 f0.st, .int .i64 f0.er] 40)).alloc (.cells #[.int .i64 mny] 3)).alloc (.cells #[.bool false] 4) = cE w e0 f0 mny from rfl]
  generalize cE w e0 f0 mny = E at *
  gi_wp2_with (first
    | (gi_at_call 9; refine (callsIn_wide.2 HN.out).mono ?_; rintro e W1 ⟨b, g, cap, rfl, h⟩; have S0 := Lib.hid h; clear h)
    | (gi_at_call 10; refine (callsIn_wide.2 (HM.out _ S0.out.2)).mono ?_; rintro e W2 ⟨gr, cr, rfl, hrf, hb2⟩; have S1 := Lib.hid (S0.out.later hb2); have R1 := Lib.hid hrf; clear hrf hb2)
    | (gi_at_call 11; refine (callsIn_wide.2 (num_any _ _)).mono ?_; rintro e w' ⟨rfl, rfl⟩))
  gi_loopw [11, 13] (fun v i wr => ∃ (k gr cr : Nat) (l : List Blk), k ≤ L.length ∧ i = .int .i64 k ∧ v = .slice (some ⟨gr, 0, none⟩) l.length cr ∧ Hid (WS E b g cap l wr) ∧ Hid (Rf wr gr l)) (fun _ i _ => L.length - (RowKit.intOf i).toNat)
  case atStart => exact ⟨0, gr, cr, mk xs, Nat.zero_le _, rfl, rfl, S1, R1⟩
  case round =>
    obtain ⟨k, gr, cr, l, hk, rfl, rfl, HS, HRf⟩ := hrel
    by_cases hlt : k < L.length
    · obtain ⟨ga, o, rfl, hga, hcell⟩ := HR.out (by omega)
      obtain ⟨a0, a1, a2, a3⟩ := hcell k hlt
      have hwb : Below w.heap.size w wr := HE.out.2.1.trans (HS.out.2.mono HE.out.2.1.size)
      have a0 := (hwb.cell (p := ⟨ga, o + k * 4, none⟩) hga).trans a0
      have a1 := (hwb.cell (p := ⟨ga, o + k * 4 + 1, none⟩) hga).trans a1
      have a2 := (hwb.cell (p := ⟨ga, o + k * 4 + 2, none⟩) hga).trans a2
      have a3 := (hwb.cell (p := ⟨ga, o + k * 4 + 3, none⟩) hga).trans a3
      generalize L[k] = x at *
      obtain ⟨wh, bl, st, er⟩ := x
      dsimp only at a0 a1 a2 a3
      have HA := Lib.hid (act_lit (cr := cr) HS.out.1 HRf.out wh bl st er)
      generalize nx l ⟨wh, bl, st, er⟩ = l' at *
      clear hcell hwb
      gi_wp2_with (gi_at_call 12; refine (callsIn_wide.2 HA.out).mono ?_; rintro e W3 ⟨gr', cr', rfl, hp, hrf, hch⟩; have HS3 := Lib.hid (HS.out.mv ⟨hp, hch⟩); have HR3 := Lib.hid hrf; clear hp hrf hch)
      go_roundw
      case rel => exact ⟨k + 1, gr', cr', l', by omega, by go_num, rfl, HS3, HR3⟩
      case measure => simp [RowKit.intOf]; omega
    · have hkl : k = L.length := by omega
      subst hkl
      have HBl := Lib.hid (Blocks_new HS.out.1 1)
      have hxl := of_len l 1
      have hxa := fun k (hk : k < (ofK l 1 l.length).length) => of_at hk
      have hxm := ofK_len l 1 l.length
      have HOF := Lib.hid (fun W (hW : Below wr.heap.size wr W) => Of_any (cap := cr) (HRf.out.below hW) HS.out.1.fit.len 1)
      have HXL := Lib.hid hxl
      have HXA := Lib.hid hxa
      have HXM := Lib.hid (Nat.le_trans hxm HS.out.1.fit.len)
      clear hxl hxa hxm
      generalize ofK l 1 l.length = ys at *
      have hxm2 : (ys.length : Int) ≤ 4096 := by have := HXM.out; omega
      gi_wp2_with (first
        | (gi_at_call 14; refine (callsIn_wide.2 HBl.out).mono ?_; rintro e W3 ⟨B5, B3, rfl, hb3, hy3⟩; have HB3 := Lib.hid hb3; have HY3 := Lib.hid hy3; clear hb3 hy3)
        | (gi_at_call 15; refine (callsIn_wide.2 (HOF.out _ HB3.out)).mono ?_; rintro e W4 ⟨A, c, rfl, hi, hb4, hnw⟩; have HIn := Lib.hid hi; have HNW := Lib.hid hnw; have HB4 := Lib.hid hb4; clear hi hb4 hnw)
        | (gi_at_call 16; refine (callsIn_wide.2 (Copy_any (((HS.out.1.below HB3.out).below HB4.out).below (below_alloc W4 (.cells #[.slice A ys.length c] 22))))).mono ?_; rintro e W6 ⟨b', g', cap', rfl, hp, hb6⟩; have HP6 := Lib.hid hp; have HB6 := Lib.hid hb6; have HS6 := Lib.hid ((((HS.out.later HB3.out).later HB4.out).later (below_alloc W4 (.cells #[.slice A ys.length c] 22))).later hb6); have HPl6 := Lib.hid HS6.out.pl; have HR6 := Lib.hid ((((HRf.out.below HB3.out).below HB4.out).below (below_alloc W4 (.cells #[.slice A ys.length c] 22))).below hb6); obtain ⟨⟨k60, k61, k62, k63⟩, k64, k65, k66, k67⟩ := arg_cells HE.out.2.2.1 HS6.out.bel; clear hp hb6)
        | (gi_at_call 12; have hcc := (callsIn_wide (n := 8)).2 (act_at (cr := cr) HPl6.out HR6.out e0); (with_reducible refine hcc.mono ?_); clear hcc; rintro e W7 ⟨gx, cx, rfl, hp, hrf, hch⟩; have HP7 := Lib.hid hp; have HR7 := Lib.hid hrf; have HC7 := Lib.hid hch; obtain ⟨h1, h2⟩ := HS.out.second (by have := HB3.out.size; have := HB4.out.size; rw [World.size_alloc]; omega) HP6.out HR6.out HS6.out hch; have HPo := Lib.hid h1; have HRo := Lib.hid h2; obtain ⟨⟨k70, k71, k72, k73⟩, k74, k75, k76, k77⟩ := arg_cells HE.out.2.2.1 (HS6.out.mv2 hp hch).bel; clear hp hrf hch h1 h2)
        | (gi_at_call 12; have hcc := (callsIn_wide (n := 8)).2 (act_at (cr := cr) HPo.out HRo.out f0); (with_reducible refine hcc.mono ?_); clear hcc; rintro e W8 ⟨gy, cy, rfl, hp, hrf, hch⟩; have HCB := Lib.hid (cb_make HS.out HRf.out HB3.out HB4.out HIn.out HNW.out HP6.out HB6.out HP7.out HR7.out HC7.out hp hrf hch); have HK8 := Lib.hid (kept3 HS.out HB3.out HB4.out HP6.out HB6.out HC7.out hch); clear hp hrf hch))
      generalize nx l e0 = l1 at *
      generalize nx l f0 = l2 at *
      have z9 : (W8.alloc (.cells #[.int .i64 0] 3)).heap.size = W8.heap.size + 1 := by rw [World.size_alloc]
      have HCB9 := Lib.hid (HCB.out.below (below_alloc W8 (.cells #[.int .i64 0] 3)))
      have HQ9 := Lib.hid (Bx1.new W8 3 (.int .i64 0))
      have HY9 := Lib.hid (fun B' => HY3.out (· = W8.heap.size) B' (W8.alloc (.cells #[.int .i64 0] 3)) (by have := HK8.out.1; omega) (fun k h1 h2 => ((below_alloc W8 _).block k (by have := HK8.out.1; omega)).trans (HK8.out.2 k h1 h2)) (fun k hk => by subst hk; have := HK8.out.1; omega))
      have HES := Lib.hid (show E.heap.size ≤ W8.heap.size ∧ W4.heap.size < W8.heap.size ∧ (W8.alloc (.cells #[.int .i64 0] 3)).heap.size = W8.heap.size + 1 from ⟨HCB.out.be.size, HCB.out.x17.lt, z9⟩)
      clear z9 HCB HK8 HY3 HB3 HB4 HB6 HP6 HP7 HC7 HR7 HPo HRo HS6 HPl6 HR6 HS HRf HIn HNW k60 k61 k62 k63 k64 k65 k66 k67 k70 k71 k72 k73 k74 k75 k76 k77
      generalize hW9 : W8.alloc (.cells #[.int .i64 0] 3) = W9 at *
      clear hW9
      refine range_asg (gf := 39) (fun x y t => ((t.setIfInBounds 100 x).setIfInBounds 101 y).setIfInBounds 24 x) rfl (enters_of Try.func39 (by kernel_rfl) rfl) (HY9.out _)
        (fun j W' => CB E b g cap b' g' cap' gx gy l1 l2 W4.heap.size (.slice A ys.length c) ys W' ∧ Bx1 W' W8.heap.size 3 (.int .i64 (j : Int)) ∧ (j = 0 ∨ (j : Int) < mny))
        (fun cd j W' => cd = .exit 2 ∧ CB E b g cap b' g' cap' gx gy l1 l2 W4.heap.size (.slice A ys.length c) ys W' ∧ Bx1 W' W8.heap.size 3 (.int .i64 (j : Int)) ∧ 1 ≤ j ∧ mny ≤ j ∧ (j = 1 ∨ (j : Int) - 1 < mny))
        (fun j X Y row hs hg hr => ⟨own_cb (by have := HES.out; omega) () X Y row hs.1 hg hr, own_bx _ () X Y row hs.2.1 hg hr, hs.2.2⟩)
        (fun cd j X Y row hs hg hr => ⟨hs.1, own_cb (by have := HES.out; omega) () X Y row hs.2.1 hg hr, own_bx _ () X Y row hs.2.2.1 hg hr, hs.2.2.2⟩) ⟨HCB9.out, HQ9.out, .inl rfl⟩ ?assign ?body ?done ?stop
      case assign =>
        intro l'' j W' K' hK'
        gi_wp2
        exact hK'
      case body =>
        rintro l'' j hj W' ⟨hcb, hx9, hjm⟩
        have hjx : j < ys.length := by rw [HXL.out]; exact hj
        have hxa := HXA.out j hjx
        have hFF : KeepsFrom W9.heap.size W' (W'.setCell ⟨W8.heap.size, 0, none⟩ (.int .i64 ((j : Int) + 1))) ∧ Kc (· = W8.heap.size) W' (W'.setCell ⟨W8.heap.size, 0, none⟩ (.int .i64 ((j : Int) + 1))) ∧ CB E b g cap b' g' cap' gx gy l1 l2 W4.heap.size (.slice A ys.length c) ys (W'.setCell ⟨W8.heap.size, 0, none⟩ (.int .i64 ((j : Int) + 1))) ∧ Bx1 (W'.setCell ⟨W8.heap.size, 0, none⟩ (.int .i64 ((j : Int) + 1))) W8.heap.size 3 (.int .i64 ((j + 1 : Nat) : Int)) :=
          ⟨(KeepsOthers.setCell _ _ _).from _, Kc.of_chg ((Chg.refl (· = W8.heap.size) W').setCell rfl _), hcb.set hx9 HES.out.1 HES.out.2.1, heap_setCell_same W' W8.heap.size 0 _ 3 _ hx9⟩
        have c7s := (HE.out.2.2.2.1.below hFF.2.2.1.be).cell
        have c9s := hFF.2.2.2.cell
        rw [show ((j + 1 : Nat) : Int) = (j : Int) + 1 by omega] at c9s
        obtain ⟨A', c', he, hr⟩ := hcb.li
        obtain ⟨gi, oi, hA', hgi, hgi2, hci⟩ := hr (by omega)
        have hAe : A = some ⟨gi, oi, none⟩ := by
          simp only [Value.slice.injEq, true_and] at he
          rw [he.1, hA']
        have cj := hci j hjx
        rw [hxa] at cj
        have c17' := hcb.x17.cell
        have c9' := hx9.cell
        have f9' := hx9.free
        rw [hAe] at c17'
        have hj4 : (j : Int) < 4096 := by have := HXM.out; omega
        have hjd : decide (ys.length ≤ j) = false := decide_eq_false (by omega)
        have hjd2 : ¬ (ys.length : Int) ≤ (j : Int) := by omega
        have HFF := Lib.hid hFF
        have HJM := Lib.hid hjm
        clear hFF hci he hA' hxa hcb hx9 hr hAe hjm
        generalize flI l 1 j = fi at *
        generalize flE l 1 j = fe' at *
        by_cases hm : mny ≤ (j : Int) + 1
        · gi_wp2
          exact ⟨HFF.out.1, rfl, HFF.out.2.2.1, HFF.out.2.2.2, HJM.out⟩
        · gi_wp2
          exact ⟨HFF.out.1, HFF.out.2.1, HFF.out.2.2.1, HFF.out.2.2.2⟩
      case done =>
        rintro D W10 hD ⟨hcb, hx9, hjm⟩ hd
        rw [← HXL.out] at hx9 hjm
        have hE : min (ys.length : Int) (max 1 mny) = (ys.length : Int) := by omega
        have HCB1 := Lib.hid hcb
        have HMk := Lib.hid (mark1 (w := w) (by have := HE.out.1; omega) hcb.be (by have := HES.out; omega) hd)
        have c9' := hx9.cell
        have c7' := (HE.out.2.2.2.1.below hcb.be).cell
        have c17' := hcb.x17.cell
        have HI1 := Lib.hid (is_any (cr := cx) hcb.p1 hcb.r1)
        have HI2 := Lib.hid (fun W11 (hW : Below W10.heap.size W10 W11) => is_any (cr := cy) (hcb.below hW).p2 (hcb.below hW).r2)
        have HX8 := Lib.hid (fun W11 (hW : Below W10.heap.size W10 W11) => (HE.out.2.2.2.2.below hcb.be).below hW)
        clear hcb hx9 hd hjm
        gi_wp2_with (first
          | (gi_at_call 13; have hcc := (callsIn_wide (n := 8)).2 HI1.out; (with_reducible refine hcc.mono ?_); clear hcc; rintro e W11 ⟨rfl, hb⟩; have HJ1 := Lib.hid hb; clear hb)
          | (gi_at_call 13; have hcc := (callsIn_wide (n := 8)).2 (HI2.out _ HJ1.out); (with_reducible refine hcc.mono ?_); clear hcc; rintro e W12 ⟨rfl, hb⟩; have HJ2 := Lib.hid (HJ1.out.trans (hb.mono HJ1.out.size)); clear hb)
          | (gi_at_call 8; have hcc := (callsIn_wide (n := 8)).2 (works_any W12); (with_reducible refine hcc.mono ?_); clear hcc; rintro e W13 ⟨rfl, hb⟩; have HJ3 := Lib.hid (HJ2.out.trans (hb.mono HJ2.out.size)); have c8 := (HX8.out _ HJ3.out).cell; have f8' := (HX8.out _ HJ3.out).free; clear hb))
        exact law_true (q := w.heap.size + 1 + 1) (HMk.out.below HJ3.out) (HE.out.2.1.trans ((HCB1.out.below HJ3.out).be.mono (by have := HE.out.1; omega))) (HX8.out _ HJ3.out) (by omega) fun W' h => res4 W' _ _ rfl h
      case stop =>
        rintro D cd j W10 hD hj ⟨rfl, hcb, hx9, h1, h2, h3⟩ hd
        rw [← HXL.out] at hj
        have hE : min (ys.length : Int) (max 1 mny) = (j : Int) := by omega
        have HCB1 := Lib.hid hcb
        have HMk := Lib.hid (mark1 (w := w) (by have := HE.out.1; omega) hcb.be (by have := HES.out; omega) hd)
        have c9' := hx9.cell
        have c7' := (HE.out.2.2.2.1.below hcb.be).cell
        have c17' := hcb.x17.cell
        have HI1 := Lib.hid (is_any (cr := cx) hcb.p1 hcb.r1)
        have HI2 := Lib.hid (fun W11 (hW : Below W10.heap.size W10 W11) => is_any (cr := cy) (hcb.below hW).p2 (hcb.below hW).r2)
        have HX8 := Lib.hid (fun W11 (hW : Below W10.heap.size W10 W11) => (HE.out.2.2.2.2.below hcb.be).below hW)
        clear hcb hx9 hd h1 h2 h3 hj
        gi_wp2_with (first
          | (gi_at_call 13; have hcc := (callsIn_wide (n := 8)).2 HI1.out; (with_reducible refine hcc.mono ?_); clear hcc; rintro e W11 ⟨rfl, hb⟩; have HJ1 := Lib.hid hb; clear hb)
          | (gi_at_call 13; have hcc := (callsIn_wide (n := 8)).2 (HI2.out _ HJ1.out); (with_reducible refine hcc.mono ?_); clear hcc; rintro e W12 ⟨rfl, hb⟩; have HJ2 := Lib.hid (HJ1.out.trans (hb.mono HJ1.out.size)); clear hb)
          | (gi_at_call 8; have hcc := (callsIn_wide (n := 8)).2 (works_any W12); (with_reducible refine hcc.mono ?_); clear hcc; rintro e W13 ⟨rfl, hb⟩; have HJ3 := Lib.hid (HJ2.out.trans (hb.mono HJ2.out.size)); have c8 := (HX8.out _ HJ3.out).cell; have f8' := (HX8.out _ HJ3.out).free; clear hb))
        exact law_true (q := w.heap.size + 1 + 1) (HMk.out.below HJ3.out) (HE.out.2.1.trans ((HCB1.out.below HJ3.out).be.mono (by have := HE.out.1; omega))) (HX8.out _ HJ3.out) (by omega) fun W' h => res4 W' _ _ rfl h
end Go.Proofs.Ytpojgjbgbbnojaa
