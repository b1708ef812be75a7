/- The reference's Erase, where it erases. Conditions stand in each theorem. -/
import Derived.Test.YtddejcoagcaidaaDH
namespace Go.Proofs.Ytddejcoagcaidaa
open Go.RowKit
set_option linter.unusedVariables false
set_option maxHeartbeats 16000000
set_option maxRecDepth 100000
attribute [local go_sem ↓ 100000] builtin_appX2
theorem step_callR {ops : Array Oper} {o : Oper} {a : Act} {W : World} {K : Act → World → Prop} {Q : Exit → Act → World → Prop} {E : Prop} {f : FuncId} {args : Array Value} {R : Ending → World → Prop} (hgd : o.guard = none)
    (xs : Array Operand) (ts : Array TypeId) (ho : o.op = .call { callee := .value (.func f), args := xs, argTypes := ts }) (hc : Calls Try.prog f args W R) (hrun : (execOp a.eval o).run Try.prog W = .ok (.enter f args) W) (h : ∀ e w', R e w' → ∃ v, e = .returned v ∧ K (a.put o.dst v) w') :
    if Region.wanted o (yielded ops a.tmps) = true then Oper.wp Try.prog o a W K Q else E := by
  have hw : Region.wanted o (yielded ops a.tmps) = true := by simp [Region.wanted, hgd]
  rw [if_pos hw]
  unfold Oper.wp
  rw [hrun, Oper.upon_enter]
  refine hc.mono fun e w' hr => ?_
  obtain ⟨v, rfl, hk⟩ := h e w' hr
  exact hk
theorem step_storeR {ops : Array Oper} {o : Oper} {a : Act} {W : World} {K : Act → World → Prop} {Q : Exit → Act → World → Prop} {E : Prop} (hgd : o.guard = none) (ty : TypeId) (x y : Operand) (ho : o.op = .store ty x y) (g : Nat) (cells : Array Value) (hx : a.eval x = .pointer (some ⟨g, 0, none⟩)) (hy : a.eval y = .agg cells)
    (t : TypeId) (old : Array Value) (hg : W.heap[g]? = some (.cells old t (0, 0))) (hi : (Try.prog.info? ty).map (·.size) = some cells.size) (hold : old.size = cells.size) (h1 : cells.all (·.oneCell') = true) (h : K (a.put o.dst undef) (W.setRow g cells)) :
    if Region.wanted o (yielded ops a.tmps) = true then Oper.wp Try.prog o a W K Q else E := by
  have hw : Region.wanted o (yielded ops a.tmps) = true := by simp [Region.wanted, hgd]
  rw [if_pos hw]
  exact wp_store_row ty x y ho g cells hx hy t old hg hi hold h1 h
theorem St.kt {W0 W : World} {g j : Nat} {vals cs : Array Value} (h : St W0 W g 35 vals j) (hg : W0.heap[g]? = some (.cells cs 35 (0, 0))) : KT W0 W :=
  ⟨(h.bel 0 W0 (Nat.zero_le _) ⟨rfl, rfl, rfl, Nat.le_refl _, fun k hk => absurd hk (Nat.not_lt_zero _)⟩).size, fun k cur ty fr hk ht => by
    by_cases e : k = g
    · subst e
      have := ty_ne hg hk
      subst this
      rcases ht with h | h | h | h <;> exact absurd h (by decide)
    · exact (h.oth k e).trans hk⟩
theorem rErase_yes {w : World} {fs : List Int} {s : Dev} {vf vp ve : Value} {pb : Int} (h : Rd w fs s vf vp ve pb) (hg : Gd s) (hn : s.n ≤ 1000000000) (hl : fs.length ≤ 1000) (i : Nat) (hi : i < s.nb) (ho : s.off = false) (he : (s.bk i).er ≠ s.en) : Calls Try.prog 36 #[.agg (rdv s vf vp ve pb), .int .i64 (i : Int)] w (RvPost w fs (s.erS (i : Int)) (s.erE (i : Int))) := by
  have H := Lib.hid h
  have hnp := hg.np
  have hnb := hg.nb
  have hnn := hg.n
  have her := hg.er i hi
  have hen := hg.en
  obtain ⟨ge, ce, cure, rfl, hce, hhe, hre⟩ := h.ers.at_ (by omega)
  have HFF := Lib.hid (fun W (hb : Below w.heap.size w W) => rfails_any (h.below hb) hl)
  obtain ⟨⟨A1, n1, c1, rfl⟩, -, -⟩ := h.forms
  obtain ⟨g, c, cur, rfl, hc, hh, hrow⟩ := id h.grid
  have HE := Lib.hid (fun W => rExists_any s (.slice A1 n1 c1) (.slice (some ⟨ge, 0, none⟩) s.nb ce) (some ⟨g, 0, none⟩) c pb (i : Int) W)
  rw [hasB_of hi] at HE
  obtain ⟨k1, k2⟩ := er_cases (q := (i : Int)) i rfl hi ho he
  obtain ⟨se, hse⟩ : ∃ se, se = s.erS (i : Int) := ⟨_, rfl⟩
  obtain ⟨ke, hke⟩ : ∃ ke, ke = s.erE (i : Int) := ⟨_, rfl⟩
  rw [← hse, ← hke]
  rw [k2] at hse
  rw [k1] at hke
  simp only [rdv] at HE HFF ⊢
  rw [ho] at HE HFF ⊢
  have e1 : (s.np : Int) ≤ 512 := by omega
  have e2 : (s.nb : Int) ≤ 4096 := by omega
  have e3 : (s.bk i).er < s.en := by omega
  have e4 : 0 ≤ (s.bk i).er := her.1
  have e5 : s.en ≤ 1048576 := hen.2
  have e6 : (i : Int) < (s.nb : Int) := by omega
  obtain ⟨er, her2⟩ : ∃ er, er = (s.bk i).er := ⟨_, rfl⟩
  rw [← her2] at e3 e4 hse
  have HSE := Lib.hid (And.intro hse hke)
  clear hse hke
  obtain ⟨W0, hW0⟩ : ∃ W0, W0 = (w.alloc (.cells #[.int .i64 (s.nb : Int), .int .i64 (s.np : Int), .int .i64 (s.sz : Int), .int .i64 s.en, .slice A1 n1 c1, .slice (some ⟨g, 0, none⟩) s.nb c, .slice (some ⟨ge, 0, none⟩) s.nb ce, .int .i64 s.n, .int .i64 s.po, .int .i64 pb, .bool false] 35)).alloc (.cells #[.int .i64 0, .int .i64 0, .int .i64 0, .int .i64 0, .slice none 0 0, .slice none 0 0, .slice none 0 0, .int .i64 0, .int .i64 0, .int .i64 0, .bool false] 35) := ⟨_, rfl⟩
  have hb0 : Below w.heap.size w W0 := by rw [hW0]; exact (balloc w _).alloc (by simp) _
  have hbx : W0.heap[w.heap.size]? = some (.cells #[.int .i64 (s.nb : Int), .int .i64 (s.np : Int), .int .i64 (s.sz : Int), .int .i64 s.en, .slice A1 n1 c1, .slice (some ⟨g, 0, none⟩) s.nb c, .slice (some ⟨ge, 0, none⟩) s.nb ce, .int .i64 s.n, .int .i64 s.po, .int .i64 pb, .bool false] 35 (0, 0)) := by rw [hW0]; exact heap_alloc2_old w _ _
  have hrx : W0.heap[w.heap.size + 1]? = some (.cells #[.int .i64 0, .int .i64 0, .int .i64 0, .int .i64 0, .slice none 0 0, .slice none 0 0, .slice none 0 0, .int .i64 0, .int .i64 0, .int .i64 0, .bool false] 35 (0, 0)) := by rw [hW0]; exact heap_alloc2_new w _ _
  have HX := Lib.hid (fun W' (hb : Below W0.heap.size W0 W') => box11 hbx hb)
  have HBX := Lib.hid hbx
  have HRX := Lib.hid hrx
  have HB0 := Lib.hid hb0
  have HW := Lib.hid hW0
  have HEI := Lib.hid (fun W' (hb : Below w.heap.size w W') => (hb.cell (p := ⟨ge, i, none⟩) (Array.getElem?_eq_some_iff.1 hhe).1).trans ((cell_of_row _ _ i _ _ _ hhe).trans ((hre i hi).trans (congrArg (fun x => some (Value.int .i64 x)) her2.symm))))
  have HHE := Lib.hid (And.intro hhe hre)
  have HER := Lib.hid her2
  have HNB := Lib.hid (And.intro hnb hnp)
  have HI := Lib.hid hi
  clear h hnp hnb hg hbx hrx hW0 hrow hh hhe hre hb0 hc hce k1 k2 her hen her2 ho he hl hi
  go_enter Try.func36, Try.ntmps36
  go_upto_region 1 with fail
  rw [← HW.out]
  obtain ⟨u0, u1, u2, u3, u4, u5, u6, u7, u8, u9, u10⟩ := HX.out W0 (Below.refl _ _)
  go_upto_region 5 with ((go_at_call 40; with_reducible refine (HE.out _).mono ?_); rintro e w2 ⟨rfl, hb⟩; obtain ⟨x0, x1, x2, x3, x4, x5, x6, x7, x8, x9, x10⟩ := HX.out _ hb; have HBX2 := Lib.hid ((hb.block _ (Array.getElem?_eq_some_iff.1 HBX.out).1).trans HBX.out); have HRX2 := Lib.hid ((hb.block _ (Array.getElem?_eq_some_iff.1 HRX.out).1).trans HRX.out); have HB2 := Lib.hid (HB0.out.trans (hb.mono HB0.out.size)); clear hb)
  have z1 := HEI.out _ HB2.out
  go_quiet (fail)
  clear u0 u1 u2 u3 u4 u5 u6 u7 u8 u9 u10
  go_upto_if 30 with fail
  have f10 := frozen_of_row w2 w.heap.size 10 _ 35 HBX2.out
  go_cut [6, 7] from 30 (fun a b wx => ∃ (st ee : Int) (o : Bool), a = .int .i64 st ∧ b = .int .i64 ee ∧ Hid (st = (if s.exE 55 = 0 then 1 else 5) ∧ ee = s.exE 55 ∧ o = (if s.n = s.po then true else false)) ∧ Hid (wx.heap[w.heap.size]? = some (.cells #[.int .i64 (s.nb : Int), .int .i64 (s.np : Int), .int .i64 (s.sz : Int), .int .i64 s.en, .slice A1 n1 c1, .slice (some ⟨g, 0, none⟩) s.nb c, .slice (some ⟨ge, 0, none⟩) s.nb ce, .int .i64 s.n, .int .i64 s.po, .int .i64 pb, .bool o] 35 (0, 0))) ∧ Hid (wx.heap[w.heap.size + 1]? = some (.cells #[.int .i64 0, .int .i64 0, .int .i64 0, .int .i64 0, .slice none 0 0, .slice none 0 0, .slice none 0 0, .int .i64 0, .int .i64 0, .int .i64 0, .bool false] 35 (0, 0))) ∧ Hid (Below w.heap.size w wx))
  case first =>
    by_cases hcut : s.n = s.po
    · have E1 : Hid (s.exE 55 = 50 ∧ (if s.n = s.po then true else false) = true) := Lib.hid ⟨if_pos hcut, if_pos hcut⟩
      have hcb : (s.n == s.po) = true := by simpa using hcut
      have HBO := Lib.hid (heap_setCell_same w2 w.heap.size 10 _ 35 (.bool true) HBX2.out)
      have HRO := Lib.hid ((heap_setCell_other w2 ⟨w.heap.size, 10, none⟩ (w.heap.size + 1) (.bool true) (by show w.heap.size + 1 ≠ w.heap.size; omega)).trans HRX2.out)
      have HBB := Lib.hid (HB2.out.setCell (p := ⟨w.heap.size, 10, none⟩) (Nat.le_refl _) (.bool true))
      clear hcut
      go_wp2
      go_meet
      case rel => exact ⟨5, 50, true, rfl, rfl, Lib.hid ⟨by rw [E1.out.1]; rfl, E1.out.1.symm, E1.out.2.symm⟩, HBO, HRO, Lib.hid (by have h := HBB.out; exact ⟨h.os, h.tape, h.output, h.size, h.block⟩)⟩
    · have hcb : (s.n == s.po) = false := by simpa using hcut
      have E0 : Hid (s.exE 55 = (if s.F.contains s.n then 55 else 0) ∧ (if s.n = s.po then true else false) = false) := Lib.hid ⟨if_neg hcut, if_neg hcut⟩
      have HF2 := Lib.hid (fun nq => HFF.out (w2.drewN nq) (bdrewN HB2.out nq))
      cases hF : s.F.contains s.n with
      | true =>
        have E1 : Hid (s.exE 55 = 55) := Lib.hid (by rw [E0.out.1, hF]; rfl)
        rw [hF] at HF2
        clear hF
        go_wp2_with ((go_at_call 58; with_reducible refine (HF2.out _).mono ?_); rintro e w3 ⟨rfl, hb3⟩; have HB3 := Lib.hid hb3; clear hb3)
        go_meet
        case rel => exact ⟨5, 55, false, rfl, rfl, Lib.hid ⟨by rw [E1.out]; rfl, E1.out.symm, E0.out.2.symm⟩, Lib.hid ((HB3.out.block _ (Array.getElem?_eq_some_iff.1 HBX2.out).1).trans HBX2.out), Lib.hid ((HB3.out.block _ (Array.getElem?_eq_some_iff.1 HRX2.out).1).trans HRX2.out), Lib.hid ((bdrewN HB2.out _).trans (HB3.out.mono HB2.out.size))⟩
      | false =>
        have E1 : Hid (s.exE 55 = 0) := Lib.hid (by rw [E0.out.1, hF]; rfl)
        rw [hF] at HF2
        clear hF
        go_wp2_with ((go_at_call 58; with_reducible refine (HF2.out _).mono ?_); rintro e w3 ⟨rfl, hb3⟩; have HB3 := Lib.hid hb3; clear hb3)
        go_meet
        case rel => exact ⟨1, 0, false, rfl, rfl, Lib.hid ⟨by rw [E1.out]; rfl, E1.out.symm, E0.out.2.symm⟩, Lib.hid ((HB3.out.block _ (Array.getElem?_eq_some_iff.1 HBX2.out).1).trans HBX2.out), Lib.hid ((HB3.out.block _ (Array.getElem?_eq_some_iff.1 HRX2.out).1).trans HRX2.out), Lib.hid ((bdrewN HB2.out _).trans (HB3.out.mono HB2.out.size))⟩
  case rest =>
    clear HBX2 HRX2 HB2 f10 z1 x0 x1 x2 x3 x4 x5 x6 x7 x8 x9 x10
    obtain ⟨st, ee, o, rfl, rfl, HC, HBX2, HRX2, HB2⟩ := hcut
    have hst : st ≠ 2 ∧ st ≠ 3 := by
      have h := HC.out.1
      split at h <;> omega
    have HPG := Lib.hid (fun W => pages_any (lb := s.lo) s.np st W (by have := HNB.out; omega) hst.1 hst.2)
    have HIO : Hid (2 ≤ s.nb ∧ s.nb ≤ 4096) := Lib.hid HNB.out.1
    clear hst
    obtain ⟨x0, x1, x2, x3, x4, x5, x6, x7, x8, x9, x10⟩ := box11 HBX2.out (Below.refl _ _)
    go_upto_region 13 with fail
    go_cut [6] from 34 (fun a wx => ∃ (G d : Nat), a = .int .i64 st ∧ Hid (wx.heap[w.heap.size]? = some (.cells #[.int .i64 (s.nb : Int), .int .i64 (s.np : Int), .int .i64 (s.sz : Int), .int .i64 s.en, .slice A1 n1 c1, .slice (some ⟨G, 0, none⟩) s.nb d, .slice (some ⟨ge, 0, none⟩) s.nb ce, .int .i64 s.n, .int .i64 s.po, .int .i64 pb, .bool o] 35 (0, 0))) ∧ Hid (wx.heap[w.heap.size + 1]? = some (.cells #[.int .i64 0, .int .i64 0, .int .i64 0, .int .i64 0, .slice none 0 0, .slice none 0 0, .slice none 0 0, .int .i64 0, .int .i64 0, .int .i64 0, .bool false] 35 (0, 0))) ∧ Hid (GrR s.lo wx (.slice (some ⟨G, 0, none⟩) s.nb d) s.nb s.np (fun j => if j = i then (fun _ => ⟨st, [], []⟩) else pgF s j)) ∧ Hid (Below w.heap.size w wx))
    case first =>
      go_region_law (first
        | (refine step_callR (f := 34) rfl _ _ rfl (HPG.out _) (by go_simp) ?_; rintro e w5 ⟨gp, rfl, hpr, hgp, hb5⟩; have hb5' : Below wc.heap.size wc w5 := (show Below wc.heap.size wc wc.drew from (Below.refl _ _).drew).trans hb5; obtain ⟨y0, y1, y2, y3, y4, y5, y6, y7, y8, y9, y10⟩ := box11 HBX2.out hb5'; have HP5 := Lib.hid hpr; have HB5 := Lib.hid hb5'; clear hpr hgp hb5 hb5'; refine ⟨_, rfl, ?_⟩)
        | (refine step_callR (f := 59) rfl _ _ rfl (show Calls Try.prog 59 #[.agg #[.int .i64 (s.nb : Int), .int .i64 (s.np : Int), .int .i64 (s.sz : Int), .int .i64 s.en, .slice A1 n1 c1, .slice (some ⟨g, 0, none⟩) s.nb c, .slice (some ⟨ge, 0, none⟩) s.nb ce, .int .i64 s.n, .int .i64 s.po, .int .i64 pb, .bool o], .int .i64 (i : Int), .slice (some ⟨gp, 0, none⟩) s.np s.np] w5 _ from rwith_any (s := s.ctl s.po s.pb s.n o) (pb := pb) (F := pgF s) (H.out.grid.kt (KT.below (HB2.out.trans (HB5.out.mono HB2.out.size)))) HIO.out.2 HIO.out.1 HP5.out i HI.out ⟨_, _, _, rfl⟩ ⟨_, _, _, rfl⟩) (by go_simp) ?_; rintro e w6 ⟨vp', rfl, hgr, hb6⟩; obtain ⟨G, d, cur6, rfl, hgr2⟩ := id hgr; clear hgr2; have hb6' := HB5.out.trans (hb6.mono HB5.out.size); have HBX6 := Lib.hid ((hb6'.block _ (Array.getElem?_eq_some_iff.1 HBX2.out).1).trans HBX2.out); have HRX6 := Lib.hid ((hb6'.block _ (Array.getElem?_eq_some_iff.1 HRX2.out).1).trans HRX2.out); have HG6 := Lib.hid hgr; have HB6 := Lib.hid (HB2.out.trans (hb6'.mono HB2.out.size)); clear hgr hb6 hb6'; obtain ⟨v0, v1, v2, v3, v4, v5, v6, v7, v8, v9, v10⟩ := box11 HBX6.out (Below.refl _ _); have f0 := frozen_of_row w6 w.heap.size 0 _ 35 HBX6.out; have f1 := frozen_of_row w6 w.heap.size 1 _ 35 HBX6.out; have f2 := frozen_of_row w6 w.heap.size 2 _ 35 HBX6.out; have f3 := frozen_of_row w6 w.heap.size 3 _ 35 HBX6.out; have f4 := frozen_of_row w6 w.heap.size 4 _ 35 HBX6.out; have f5 := frozen_of_row w6 w.heap.size 5 _ 35 HBX6.out; have f6 := frozen_of_row w6 w.heap.size 6 _ 35 HBX6.out; have f7 := frozen_of_row w6 w.heap.size 7 _ 35 HBX6.out; have f8 := frozen_of_row w6 w.heap.size 8 _ 35 HBX6.out; have f9 := frozen_of_row w6 w.heap.size 9 _ 35 HBX6.out; have f10 := frozen_of_row w6 w.heap.size 10 _ 35 HBX6.out; refine ⟨.agg #[.int .i64 (s.nb : Int), .int .i64 (s.np : Int), .int .i64 (s.sz : Int), .int .i64 s.en, .slice A1 n1 c1, .slice (some ⟨G, 0, none⟩) s.nb d, .slice (some ⟨ge, 0, none⟩) s.nb ce, .int .i64 s.n, .int .i64 s.po, .int .i64 pb, .bool o], rfl, ?_⟩))
      all_goals
        go_wp2
        go_meet
        case rel =>
          have hS := ((((((((((((St.start (vals := #[.int .i64 (s.nb : Int), .int .i64 (s.np : Int), .int .i64 (s.sz : Int), .int .i64 s.en, .slice A1 n1 c1, .slice (some ⟨G, 0, none⟩) s.nb d, .slice (some ⟨ge, 0, none⟩) s.nb ce, .int .i64 s.n, .int .i64 s.po, .int .i64 pb, .bool o]) HBX6.out rfl).set _ rfl).set _ rfl).set _ rfl).set _ rfl).set _ rfl).set _ rfl).set _ rfl).set _ rfl).set _ rfl).set _ rfl).set _ rfl)
          exact ⟨G, d, rfl, Lib.hid hS.done, Lib.hid ((hS.oth _ (by omega)).trans HRX6.out), Lib.hid (HG6.out.kt (hS.kt HBX6.out)), Lib.hid (hS.bel _ _ (Nat.le_refl _) HB6.out)⟩
    case rest =>
      clear HBX2 HRX2 x0 x1 x2 x3 x4 x5 x6 x7 x8 x9 x10 HB2 HPG
      obtain ⟨G, d, rfl, HBX3, HRX3, HGR, HB3⟩ := hcut
      obtain ⟨W5, hW5⟩ : ∃ W5, W5 = wc := ⟨_, rfl⟩
      subst hW5
      obtain ⟨i0, hi0, hz0, hz1, hz2⟩ := info_parts info3
      have hlen : s.nb ≤ cure.size := by
        rcases Nat.lt_or_ge cure.size s.nb with h' | h'
        · have := HHE.out.2 cure.size h'
          simp at this
        · exact h'
      obtain ⟨G2, d2, W6, hrun, ⟨cur2, hG2, hd2, hcur2⟩, hGs, hb6⟩ := app_copy (W := W5) (m := s.nb) (c := ce) (cur := cure) (g := ge) Try.underlying24 hi0 hz0 hz1 hz2 rfl (by decide) ((HB3.out.block ge (Array.getElem?_eq_some_iff.1 HHE.out.1).1).trans HHE.out.1) (cure.toList.take s.nb) (by rw [List.length_take]; simp; omega) (fun j u hu => by
          rw [List.getElem?_take] at hu
          split at hu
          · simpa using hu
          · cases hu) (fun u hu => by
          obtain ⟨j, hj, e⟩ := List.mem_iff_getElem.1 hu
          rw [List.length_take] at hj
          have h1 := HHE.out.2 j (by omega)
          rw [List.getElem_take] at e
          have : cure[j]? = some u := by rw [← e]; simp
          rw [h1] at this
          cases this
          rfl) (by have := HIO.out; omega) (by have := HIO.out; unfold maxLen; omega) (by have := HIO.out; omega)
      have HCU : Hid (∀ j, j < s.nb → cur2[j]? = some (.int .i64 (s.bk j).er)) := Lib.hid (fun j hj => by
        rw [hcur2 j (by omega), List.getElem?_take, if_pos hj]
        have := HHE.out.2 j hj
        simpa using this)
      have hbx6 := (hb6.block _ (Array.getElem?_eq_some_iff.1 HBX3.out).1).trans HBX3.out
      have hrx6 := (hb6.block _ (Array.getElem?_eq_some_iff.1 HRX3.out).1).trans HRX3.out
      have hl1 := (Array.getElem?_eq_some_iff.1 HBX3.out).1
      have hl2 := (Array.getElem?_eq_some_iff.1 HRX3.out).1
      have hn1 : G2 ≠ w.heap.size := by omega
      have hn2 : G2 ≠ w.heap.size + 1 := by omega
      have HN := Lib.hid (And.intro hn1 hn2)
      have HGS : Hid (w.heap.size ≤ G2) := Lib.hid (by omega)
      have HB6 := Lib.hid (HB3.out.trans (hb6.mono HB3.out.size))
      have HS5 := Lib.hid (And.intro hGs hb6)
      have b6 : (W5.alloc (.cells #[] 3)).cell? ⟨w.heap.size, 6, none⟩ = some (.slice (some ⟨ge, 0, none⟩) s.nb ce) := (cell_of_row _ _ 6 _ _ _ ((heap_alloc_old W5 _ hl1).trans HBX3.out)).trans rfl
      have k6 : W6.cell? ⟨w.heap.size, 6, none⟩ = some (.slice (some ⟨ge, 0, none⟩) s.nb ce) := (cell_of_row _ _ 6 _ _ _ hbx6).trans rfl
      have f6 : W6.frozen? ⟨w.heap.size, 6, none⟩ = false := frozen_of_row _ _ 6 _ _ hbx6
      have HBX6 := Lib.hid hbx6
      have HRX6 := Lib.hid hrx6
      have HG2 := Lib.hid hG2
      have HD2 := Lib.hid hd2
      have HGR6 := Lib.hid (HGR.out.kt (KT.below hb6))
      clear hbx6 hrx6 hG2 hcur2 hlen hi0 hz0 hz1 hz2 hGs hb6 hl1 hl2 hn1 hn2 hd2
      go_upto_region 15 with fail
      obtain ⟨W7, hW7⟩ : ∃ W7, W7 = W6.setCell ⟨w.heap.size, 6, none⟩ (.slice (some ⟨G2, 0, none⟩) s.nb d2) := ⟨_, rfl⟩
      rw [← hW7]
      have HBX7 : Hid (W7.heap[w.heap.size]? = some (.cells #[.int .i64 (s.nb : Int), .int .i64 (s.np : Int), .int .i64 (s.sz : Int), .int .i64 s.en, .slice A1 n1 c1, .slice (some ⟨G, 0, none⟩) s.nb d, .slice (some ⟨G2, 0, none⟩) s.nb d2, .int .i64 s.n, .int .i64 s.po, .int .i64 pb, .bool o] 35 (0, 0))) := Lib.hid (by rw [hW7]; exact heap_setCell_same W6 w.heap.size 6 _ 35 _ HBX6.out)
      have HRX7 : Hid (W7.heap[w.heap.size + 1]? = some (.cells #[.int .i64 0, .int .i64 0, .int .i64 0, .int .i64 0, .slice none 0 0, .slice none 0 0, .slice none 0 0, .int .i64 0, .int .i64 0, .int .i64 0, .bool false] 35 (0, 0))) := Lib.hid (by rw [hW7]; exact (heap_setCell_other W6 ⟨w.heap.size, 6, none⟩ _ _ (by show w.heap.size + 1 ≠ w.heap.size; omega)).trans HRX6.out)
      have HG7 : Hid (W7.heap[G2]? = some (.cells cur2 3 (0, 0))) := Lib.hid (by rw [hW7]; exact (heap_setCell_other W6 ⟨w.heap.size, 6, none⟩ _ _ HN.out.1).trans HG2.out)
      have HB7 : Hid (Below w.heap.size w W7) := Lib.hid (by rw [hW7]; exact HB6.out.setCell (p := ⟨w.heap.size, 6, none⟩) (Nat.le_refl _) _)
      have HK7 : Hid (KT W6 W7) := Lib.hid (by
        rw [hW7]
        refine ⟨by rw [World.size_setCell]; exact Nat.le_refl _, fun k cur ty fr hk ht => ?_⟩
        by_cases e : k = w.heap.size
        · subst e
          have := ty_ne HBX6.out hk
          subst this
          rcases ht with h | h | h | h <;> exact absurd h (by decide)
        · exact (heap_setCell_other W6 ⟨w.heap.size, 6, none⟩ k _ e).trans hk)
      have HC7 : Hid (∀ k, k ≠ w.heap.size → W7.heap[k]? = W6.heap[k]?) := Lib.hid (fun k hk => by rw [hW7]; exact heap_setCell_other W6 ⟨w.heap.size, 6, none⟩ k _ hk)
      have HZ7 : Hid (W6.heap.size ≤ W7.heap.size) := Lib.hid (by rw [hW7, World.size_setCell]; exact Nat.le_refl _)
      have b6 : W7.cell? ⟨w.heap.size, 6, none⟩ = some (.slice (some ⟨G2, 0, none⟩) s.nb d2) := (cell_of_row _ _ 6 _ _ _ HBX7.out).trans rfl
      have z1 : W7.cell? ⟨G2, i, none⟩ = some (.int .i64 er) := (cell_of_row _ _ i _ _ _ HG7.out).trans ((HCU.out i HI.out).trans (by rw [HER.out]))
      have z2 : W7.frozen? ⟨G2, i, none⟩ = false := frozen_of_row _ _ i _ _ HG7.out
      clear hW7 hrun k6 f6
      go_upto_region 16 with fail
      obtain ⟨W8, hW8⟩ : ∃ W8, W8 = W7.setCell ⟨G2, i, none⟩ (.int .i64 (er + 1)) := ⟨_, rfl⟩
      rw [← hW8]
      have HBX8 : Hid (W8.heap[w.heap.size]? = some (.cells #[.int .i64 (s.nb : Int), .int .i64 (s.np : Int), .int .i64 (s.sz : Int), .int .i64 s.en, .slice A1 n1 c1, .slice (some ⟨G, 0, none⟩) s.nb d, .slice (some ⟨G2, 0, none⟩) s.nb d2, .int .i64 s.n, .int .i64 s.po, .int .i64 pb, .bool o] 35 (0, 0))) := Lib.hid (by rw [hW8]; exact (heap_setCell_other W7 ⟨G2, i, none⟩ _ _ HN.out.1.symm).trans HBX7.out)
      have HRX8 : Hid (W8.heap[w.heap.size + 1]? = some (.cells #[.int .i64 0, .int .i64 0, .int .i64 0, .int .i64 0, .slice none 0 0, .slice none 0 0, .slice none 0 0, .int .i64 0, .int .i64 0, .int .i64 0, .bool false] 35 (0, 0))) := Lib.hid (by rw [hW8]; exact (heap_setCell_other W7 ⟨G2, i, none⟩ _ _ HN.out.2.symm).trans HRX7.out)
      have HZ8 : Hid (W6.heap.size ≤ W8.heap.size) := Lib.hid (by rw [hW8, World.size_setCell]; exact HZ7.out)
      have HG8 : Hid (W8.heap[G2]? = some (.cells (cur2.setIfInBounds i (.int .i64 (er + 1))) 3 (0, 0))) := Lib.hid (by rw [hW8]; exact heap_setCell_same W7 G2 i cur2 3 _ HG7.out)
      have HB8 : Hid (Below w.heap.size w W8) := Lib.hid (by rw [hW8]; exact HB7.out.setCell (p := ⟨G2, i, none⟩) HGS.out _)
      have HC8 : Hid (∀ k, k < W5.heap.size → k ≠ w.heap.size → W8.heap[k]? = W5.heap[k]?) := Lib.hid (fun k hk hk1 => by
        have := HS5.out.1
        rw [hW8, heap_setCell_other W7 ⟨G2, i, none⟩ k _ (by show k ≠ G2; omega)]
        exact (HC7.out k hk1).trans (HS5.out.2.block k hk))
      have b7 : W8.cell? ⟨w.heap.size, 7, none⟩ = some (.int .i64 s.n) := (cell_of_row _ _ 7 _ _ _ HBX8.out).trans rfl
      have f7 : W8.frozen? ⟨w.heap.size, 7, none⟩ = false := frozen_of_row _ _ 7 _ _ HBX8.out
      clear hW8 z1 z2 b6
      go_upto_region 17 with fail
      obtain ⟨W9, hW9⟩ : ∃ W9, W9 = W8.setCell ⟨w.heap.size, 7, none⟩ (.int .i64 (s.n + 1)) := ⟨_, rfl⟩
      rw [← hW9]
      have hbx9 : W9.heap[w.heap.size]? = some (.cells #[.int .i64 (s.nb : Int), .int .i64 (s.np : Int), .int .i64 (s.sz : Int), .int .i64 s.en, .slice A1 n1 c1, .slice (some ⟨G, 0, none⟩) s.nb d, .slice (some ⟨G2, 0, none⟩) s.nb d2, .int .i64 (s.n + 1), .int .i64 s.po, .int .i64 pb, .bool o] 35 (0, 0)) := by rw [hW9]; exact heap_setCell_same W8 w.heap.size 7 _ 35 _ HBX8.out
      have HRX9 : Hid (W9.heap[w.heap.size + 1]? = some (.cells #[.int .i64 0, .int .i64 0, .int .i64 0, .int .i64 0, .slice none 0 0, .slice none 0 0, .slice none 0 0, .int .i64 0, .int .i64 0, .int .i64 0, .bool false] 35 (0, 0))) := Lib.hid (by rw [hW9]; exact (heap_setCell_other W8 ⟨w.heap.size, 7, none⟩ _ _ (by show w.heap.size + 1 ≠ w.heap.size; omega)).trans HRX8.out)
      have hbf : Below w.heap.size w (W9.setRow (w.heap.size + 1) #[.int .i64 (s.nb : Int), .int .i64 (s.np : Int), .int .i64 (s.sz : Int), .int .i64 s.en, .slice A1 n1 c1, .slice (some ⟨G, 0, none⟩) s.nb d, .slice (some ⟨G2, 0, none⟩) s.nb d2, .int .i64 (s.n + 1), .int .i64 s.po, .int .i64 pb, .bool o]) := setRow_below (by rw [hW9]; exact HB8.out.setCell (p := ⟨w.heap.size, 7, none⟩) (Nat.le_refl _) _) (by omega)
      have hgf : (W9.setRow (w.heap.size + 1) #[.int .i64 (s.nb : Int), .int .i64 (s.np : Int), .int .i64 (s.sz : Int), .int .i64 s.en, .slice A1 n1 c1, .slice (some ⟨G, 0, none⟩) s.nb d, .slice (some ⟨G2, 0, none⟩) s.nb d2, .int .i64 (s.n + 1), .int .i64 s.po, .int .i64 pb, .bool o]).heap[G2]? = some (.cells (cur2.setIfInBounds i (.int .i64 (er + 1))) 3 (0, 0)) := (setRow_other W9 _ G2 _ HN.out.2).trans (by rw [hW9]; exact (heap_setCell_other W8 ⟨w.heap.size, 7, none⟩ _ _ HN.out.1).trans HG8.out)
      have hkt : KT W5 (W9.setRow (w.heap.size + 1) #[.int .i64 (s.nb : Int), .int .i64 (s.np : Int), .int .i64 (s.sz : Int), .int .i64 s.en, .slice A1 n1 c1, .slice (some ⟨G, 0, none⟩) s.nb d, .slice (some ⟨G2, 0, none⟩) s.nb d2, .int .i64 (s.n + 1), .int .i64 s.po, .int .i64 pb, .bool o]) := by
        refine ⟨by rw [size_setRow, hW9, World.size_setCell]; exact Nat.le_trans HS5.out.2.size HZ8.out, fun k cur' ty fr hk ht => ?_⟩
        have hkl := (Array.getElem?_eq_some_iff.1 hk).1
        have n1 : k ≠ w.heap.size := fun e => by
          subst e
          have := ty_ne HBX3.out hk
          subst this
          rcases ht with h | h | h | h <;> exact absurd h (by decide)
        have n2 : k ≠ w.heap.size + 1 := fun e => by
          subst e
          have := ty_ne HRX3.out hk
          subst this
          rcases ht with h | h | h | h <;> exact absurd h (by decide)
        rw [setRow_other W9 _ k _ n2, hW9, heap_setCell_other W8 ⟨w.heap.size, 7, none⟩ k _ n1, HC8.out k hkl n1]
        exact hk
      have HFIN : Hid (RvPost w fs se ke (.returned (.tuple #[.agg #[.int .i64 (s.nb : Int), .int .i64 (s.np : Int), .int .i64 (s.sz : Int), .int .i64 s.en, .slice A1 n1 c1, .slice (some ⟨G, 0, none⟩) s.nb d, .slice (some ⟨G2, 0, none⟩) s.nb d2, .int .i64 (s.n + 1), .int .i64 s.po, .int .i64 pb, .bool o], .int .i64 ee])) (W9.setRow (w.heap.size + 1) #[.int .i64 (s.nb : Int), .int .i64 (s.np : Int), .int .i64 (s.sz : Int), .int .i64 s.en, .slice A1 n1 c1, .slice (some ⟨G, 0, none⟩) s.nb d, .slice (some ⟨G2, 0, none⟩) s.nb d2, .int .i64 (s.n + 1), .int .i64 s.po, .int .i64 pb, .bool o])) := Lib.hid (by
        obtain ⟨c1', c2', c3'⟩ := HC.out
        rw [HSE.out.1, HSE.out.2, c2', ← c3']
        refine ⟨_, _, _, pb, rfl, H.out.nxt (KT.below hbf) o _ (fun _ => ⟨st, [], []⟩) (HGR.out.kt hkt) (fun j hj => ?_) ?_, hbf⟩
        · rw [c1']
          by_cases h0 : s.exE 55 = 0
          · simp [h0]
          · simp [h0, hj]
        · refine ⟨_, d2, by simp, by simp; exact HD2.out, fun _ => ⟨G2, _, rfl, hgf, fun j hj => ?_⟩⟩
          have hj' : j < s.nb := by simpa using hj
          simp only [List.getElem_map, List.getElem_range]
          by_cases e : j = i
          · subst e
            rw [Array.getElem?_setIfInBounds_self_of_lt (Array.getElem?_eq_some_iff.1 (HCU.out j hj')).1, if_pos rfl]
          · rw [Array.getElem?_setIfInBounds_ne (fun e' => e e'.symm), if_neg e]
            exact HCU.out j hj')
      obtain ⟨x0, x1, x2, x3, x4, x5, x6, x7, x8, x9, x10⟩ := box11 hbx9 (Below.refl _ _)
      clear hW9 hbx9 hbf hgf hkt b7 f7
      go_wp2_with (refine wpList_store_row rfl 35 _ _ rfl (w.heap.size + 1) #[.int .i64 (s.nb : Int), .int .i64 (s.np : Int), .int .i64 (s.sz : Int), .int .i64 s.en, .slice A1 n1 c1, .slice (some ⟨G, 0, none⟩) s.nb d, .slice (some ⟨G2, 0, none⟩) s.nb d2, .int .i64 (s.n + 1), .int .i64 s.po, .int .i64 pb, .bool o] rfl rfl 35 _ HRX9.out info35 rfl (by simp [Value.oneCell']) ?_)
      refine bodyPost_ret (v := .tuple #[.agg #[.int .i64 (s.nb : Int), .int .i64 (s.np : Int), .int .i64 (s.sz : Int), .int .i64 s.en, .slice A1 n1 c1, .slice (some ⟨G, 0, none⟩) s.nb d, .slice (some ⟨G2, 0, none⟩) s.nb d2, .int .i64 (s.n + 1), .int .i64 s.po, .int .i64 pb, .bool o], .int .i64 ee]) ?_ rfl HFIN.out
      exact results_row1 (a := 4) (b := 5) (ty := 35) rfl _ _ (w.heap.size + 1) 35 #[.int .i64 (s.nb : Int), .int .i64 (s.np : Int), .int .i64 (s.sz : Int), .int .i64 s.en, .slice A1 n1 c1, .slice (some ⟨G, 0, none⟩) s.nb d, .slice (some ⟨G2, 0, none⟩) s.nb d2, .int .i64 (s.n + 1), .int .i64 s.po, .int .i64 pb, .bool o] (0, 0) _ rfl (setRow_at HRX9.out) Try.underlying35 rfl info35
theorem rErase_any {w : World} {fs : List Int} {s : Dev} {vf vp ve : Value} {pb : Int} (h : Rd w fs s vf vp ve pb) (hg : Gd s) (hn : s.n ≤ 1000000000) (hl : fs.length ≤ 1000) (q : Int) : Calls Try.prog 36 #[.agg (rdv s vf vp ve pb), .int .i64 q] w (RvPost w fs (s.erS q) (s.erE q)) := by
  by_cases hno : s.hasB q = false ∨ s.off = true ∨ ∃ i : Nat, q = (i : Int) ∧ (s.bk i).er = s.en
  · exact rErase_no h hg q hno
  · have h1 : s.hasB q = true := by
      cases e : s.hasB q with
      | true => rfl
      | false => exact absurd (.inl e) hno
    have h2 : s.off = false := by
      cases e : s.off with
      | false => rfl
      | true => exact absurd (.inr (.inl e)) hno
    have h3 := hasB_iff s q
    rw [h1] at h3
    obtain ⟨q0, q1⟩ := of_decide_eq_true h3.symm
    obtain ⟨i, rfl⟩ : ∃ i : Nat, q = (i : Int) := ⟨q.toNat, by omega⟩
    exact rErase_yes h hg hn hl i (by omega) h2 (fun e => hno (.inr (.inr ⟨i, rfl, e⟩)))
end Go.Proofs.Ytddejcoagcaidaa
