/- The closure that takes a record. Conditions stand in each theorem. -/
import Derived.Test.YtajlddgemkkcdaaU
namespace Go.Proofs.Ytajlddgemkkcdaa
open Go.RowKit
set_option linter.unusedVariables false
set_option maxHeartbeats 4000000
set_option maxRecDepth 100000
attribute [local go_sem ↓ 100000] builtin_appX
theorem own_apart {W : World} {b1 b2 s1 s2 n1 n2 : Nat} {e1 e2 : TypeId} {v1 v2 : Value} {x1 x2 : List Value} (h1 : W.ownsRow b1 e1 s1 v1 n1 x1) (h2 : W.ownsRow b2 e2 s2 v2 n2 x2) (hne : e1 ≠ e2) : v1.ownBlock = none ∨ v1.ownBlock ≠ v2.ownBlock := by
  rcases h1.2 with ⟨rfl, _⟩ | ⟨g, cap, cur, rfl, _, hh, _⟩
  · exact .inl rfl
  · refine .inr (fun e => ?_)
    rcases h2.2 with ⟨rfl, _⟩ | ⟨g', cap', cur', rfl, _, hh', _⟩
    · cases e
    · cases e
      rw [hh] at hh'
      injection hh' with hh'
      injection hh' with _ hh' _
      exact hne hh'
theorem row_apart {W W' : World} {b s n g : Nat} {e ty : TypeId} {v : Value} {xs : List Value} {cs : Array Value} {fr : Nat × Nat} (h : W.ownsRow b e s v n xs) (hg : W.grownBy W' v.ownBlock) (hh : W.heap[g]? = some (.cells cs ty fr)) (hne : ty ≠ e) : W'.heap[g]? = some (.cells cs ty fr) := by
  refine (hg.block g (Array.getElem?_eq_some_iff.1 hh).1 (fun e' => ?_)).trans hh
  rcases h.2 with ⟨rfl, _⟩ | ⟨g', cap', cur', rfl, _, hh', _⟩
  · cases e'
  · cases e'
    rw [hh] at hh'
    injection hh' with hh'
    injection hh' with _ hh' _
    exact hne hh'
/-- The entries of pages. -/
def entF (l : List Pg) (ps : List Nat) : List (Int × Int) := ps.flatMap fun p => match l[p]? with | some x => x.es | none => []
theorem entF_snoc (l : List Pg) (ps : List Nat) (k : Nat) (h : k < ps.length) (hp : ps[k] < l.length) : entF l (ps.take (k + 1)) = entF l (ps.take k) ++ l[ps[k]].es := by
  unfold entF
  rw [List.take_succ_eq_append_getElem h, List.flatMap_append]
  simp [List.getElem?_eq_getElem hp]
theorem entF_take (l : List Pg) (ps : List Nat) (k : Nat) : (entF l (ps.take k)).length ≤ (entF l ps).length := by
  have h : entF l ps = entF l (ps.take k) ++ entF l (ps.drop k) := by
    unfold entF
    rw [← List.flatMap_append, List.take_append_drop]
  rw [h, List.length_append]
  omega
theorem own_set {W : World} {b s n g o : Nat} {e ty : TypeId} {v u : Value} {xs : List Value} {cs : Array Value} {fr : Nat × Nat} (h : W.ownsRow b e s v n xs) (hh : W.heap[g]? = some (.cells cs ty fr)) (hne : ty ≠ e) : (W.setCell ⟨g, o, none⟩ u).ownsRow b e s v n xs := by
  have hg : W.grownBy (W.setCell ⟨g, o, none⟩ u) (some g) := ⟨rfl, rfl, rfl, by rw [World.size_setCell]; exact Nat.le_refl _, fun k hk hn => heap_setCell_other W ⟨g, o, none⟩ k u (fun e => hn (by rw [e]))⟩
  refine h.kept hg ?_
  rcases h.2 with ⟨rfl, _⟩ | ⟨g', cap', cur', rfl, _, hh', _⟩
  · exact .inl rfl
  · refine .inr (fun e' => ?_)
    cases e'
    rw [hh] at hh'
    injection hh' with hh'
    injection hh' with _ hh' _
    exact hne hh'
/-- What lies behind a chain: the list of pages, its box, the chain's cells; wb is the world in which it was laid. -/
structure Bk (w0 wb : World) (lb cb : Nat) (A : Option Addr) (c : Nat) (l : List Pg) : Prop where
  bel : Below w0.heap.size w0 wb
  le : w0.heap.size ≤ cb
  cbx : ∃ cs, wb.heap[cb]? = some (.cells cs 52 (0, 0))
  lbx : wb.cell? ⟨lb, 0, none⟩ = some (.slice A l.length c)
  ne : lb ≠ cb
  pgs : Pgs w0 (.slice A l.length c) l
  ent : ∀ x ∈ l, Ent w0 x.ev x.es
theorem Kb.bel {w0 wb W : World} {lb cb c : Nat} {A : Option Addr} {l : List Pg} (h : Bk w0 wb lb cb A c l) (k : Kb wb W cb wb.heap.size) : Below w0.heap.size w0 W :=
  ⟨k.os.trans h.bel.os, k.tape.trans h.bel.tape, k.output.trans h.bel.output, Nat.le_trans h.bel.size k.size, fun i hi => (k.block i (by have := h.bel.size; omega) (by have := h.le; omega)).trans (h.bel.block i hi)⟩
theorem Bk.cb_lt {w0 wb : World} {lb cb c : Nat} {A : Option Addr} {l : List Pg} (h : Bk w0 wb lb cb A c l) : cb < wb.heap.size := by
  obtain ⟨cs, h1⟩ := h.cbx
  exact (Array.getElem?_eq_some_iff.1 h1).1
theorem Kb.pls {w0 wb W : World} {lb cb c : Nat} {A : Option Addr} {l : List Pg} (h : Bk w0 wb lb cb A c l) (k : Kb wb W cb wb.heap.size) {v : Value} {ps : List Nat} (hp : Pls wb v ps) : Pls W v ps :=
  hp.same fun g cur hg => k.block g (Array.getElem?_eq_some_iff.1 hg).1 (fun e => by
    obtain ⟨cs, h1⟩ := h.cbx
    rw [e, h1] at hg
    injection hg with hg
    injection hg with _ hg _
    exact absurd hg (by decide))
/-- Rows of records stay. -/
def K78 (W W' : World) : Prop := ∀ (k : Nat) (cs : Array Value), W.heap[k]? = some (Obj.cells cs 78 (0, 0)) → W'.heap[k]? = some (Obj.cells cs 78 (0, 0))
theorem K78.refl (W : World) : K78 W W := fun _ _ h => h
theorem K78.trans {a b c : World} (h : K78 a b) (k : K78 b c) : K78 a c := fun i cs hi => k i cs (h i cs hi)
theorem K78.below {a b : World} (h : Below a.heap.size a b) : K78 a b := fun i cs hi => (h.block i (Array.getElem?_eq_some_iff.1 hi).1).trans hi
theorem K78.row {a b : World} {bs s n : Nat} {e : TypeId} {v : Value} {xs : List Value} (h : a.ownsRow bs e s v n xs) (hg : a.grownBy b v.ownBlock) (hne : (78 : TypeId) ≠ e) : K78 a b := fun i cs hi => row_apart h hg hi hne
theorem K78.set {a : World} {cb o : Nat} {cs : Array Value} {u : Value} {ty : TypeId} (h : a.heap[cb]? = some (.cells cs ty (0, 0))) (hne : ty ≠ 78) : K78 a (a.setCell ⟨cb, o, none⟩ u) := fun i c2 hi => by
  have : i ≠ cb := fun e => by
    subst e
    rw [h] at hi
    injection hi with hi
    injection hi with _ hi _
    exact hne hi
  exact (heap_setCell_other a ⟨cb, o, none⟩ i u this).trans hi
/-- What the closure leaves. -/
def TkPost (wb W : World) (cb : Nat) (en : List (Int × Int)) (la : Int) (us : List Nat) (e : Ending) (w' : World) : Prop :=
  e = .returned (.tuple #[]) ∧ (∃ Ae ce Au cu, ChS w' cb wb.heap.size en la us (.slice Ae en.length ce) (.slice Au us.length cu)) ∧ Kb wb w' cb wb.heap.size ∧ K78 W w'
theorem take_any (w0 wb W : World) (lb cb c : Nat) (A : Option Addr) (l : List Pg) (hbk : Bk w0 wb lb cb A c l) (hkb : Kb wb W cb wb.heap.size) (en : List (Int × Int)) (la : Int) (us : List Nat) (Ae : Option Addr) (ce : Nat) (Au : Option Addr) (cu : Nat)
    (hcs : ChS W cb wb.heap.size en la us (.slice Ae en.length ce) (.slice Au us.length cu)) (x : Loc) (cr : Cr) (hx : LocOf wb x cr) (hps : ∀ p ∈ cr.ps, p < l.length) (hf0 : 0 ≤ cr.r.f) (hn1 : 1 ≤ cr.r.n) (hn2 : cr.r.n ≤ 65535) (hfn : cr.r.f + (cr.r.n - 1) ≤ 18446744073709551615)
    (hl : l.length ≤ 10000) (hle : ∀ y ∈ l, y.es.length ≤ 10000) (hpl : cr.ps.length ≤ 65535) (hu : us.length ≤ 50000000) (he : en.length ≤ 50000000) (hlen : (entF l cr.ps).length ≤ 40000000) :
    Calls Try.prog 32 #[x.v, .pointer (some ⟨cb, 0, none⟩), .pointer (some ⟨lb, 0, none⟩)] W (TkPost wb W cb (en ++ entF l cr.ps) (cr.r.f + (cr.r.n - 1)) (us ++ cr.ps)) := by
  obtain ⟨⟨xk, xf, xp, xn⟩, xe, xa, xl, xc⟩ := x
  have hxr := hx.r
  have hxn := hx.n
  have hpls := hx.ps
  simp only at hxr hxn
  obtain ⟨rr, re, ps⟩ := cr
  simp only at *
  subst hxr hxn
  have HLAST := Lib.hid (fun W => last_any ⟨xk, xf, xp, xn⟩ hf0 hn1 hn2 hfn W)
  simp only [Loc.v, Loc.row, Loc.pl, Rec.v, Rec.row] at *
  have HBK := Lib.hid hbk
  have HPLS := Lib.hid hpls
  have HPS := Lib.hid hps
  have HLE := Lib.hid hle
  have HKB := Lib.hid hkb
  have HCS := Lib.hid hcs
  have hpli : (ps.length : Int) ≤ 65535 := by omega
  have hli : (l.length : Int) ≤ 10000 := by omega
  clear hbk hkb hcs hx hps hle hpls hn1 hn2 hfn hf0
  go_enter Try.func32, Try.ntmps32
  go_upto_region 2 with fail
  obtain ⟨bx, hbx⟩ : ∃ bx, bx = W.heap.size := ⟨_, rfl⟩
  have hbw : Below W.heap.size W (W.alloc (.cells #[.int .u8 xk, .int .u64 xf, .int .u64 xp, .int .i64 xn, .int .i64 xe, .slice xa ps.length xc] 78)) := (Below.refl _ _).alloc (Nat.le_refl _) _
  have hrow : (W.alloc (.cells #[.int .u8 xk, .int .u64 xf, .int .u64 xp, .int .i64 xn, .int .i64 xe, .slice xa ps.length xc] 78)).heap[bx]? = some (.cells #[.int .u8 xk, .int .u64 xf, .int .u64 xp, .int .i64 xn, .int .i64 xe, .slice xa ps.length xc] 78 (0, 0)) := by rw [hbx]; exact heap_alloc_new W _
  have hbase : wb.heap.size ≤ W.heap.size := HKB.out.size
  have hkb1 : Kb wb (W.alloc (.cells #[.int .u8 xk, .int .u64 xf, .int .u64 xp, .int .i64 xn, .int .i64 xe, .slice xa ps.length xc] 78)) cb wb.heap.size := HKB.out.trans (Kb.of_below hbw hbase)
  have hcs1 : ChS (W.alloc (.cells #[.int .u8 xk, .int .u64 xf, .int .u64 xp, .int .i64 xn, .int .i64 xe, .slice xa ps.length xc] 78)) cb wb.heap.size (en ++ entF l (ps.take 0)) la us (.slice Ae (en ++ entF l (ps.take 0)).length ce) (.slice Au us.length cu) := by
    have e0 : en ++ entF l (ps.take 0) = en := by simp [entF]
    rw [e0]
    exact ⟨(hbw.block _ (Array.getElem?_eq_some_iff.1 HCS.out.blk).1).trans HCS.out.blk, own_below8 HCS.out.ve hbw, own_below8 HCS.out.vu hbw⟩
  have HBX : Hid (wb.heap.size ≤ bx) := Lib.hid (by rw [hbx]; exact hbase)
  have HR1 := Lib.hid hrow
  have H78 := Lib.hid (K78.below hbw)
  have HK1 := Lib.hid hkb1
  have HC1 := Lib.hid hcs1
  rw [← hbx]
  obtain ⟨W1, hW1⟩ : ∃ W1, W1 = W.alloc (.cells #[.int .u8 xk, .int .u64 xf, .int .u64 xp, .int .i64 xn, .int .i64 xe, .slice xa ps.length xc] 78) := ⟨_, rfl⟩
  rw [← hW1] at HR1 HK1 HC1 H78 ⊢
  clear hW1 hbw hrow hbase hkb1 hcs1 hbx HCS HKB
  go_loopw [9] (fun i wr => ∃ (k : Nat) (Ae2 : Option Addr) (ce2 : Nat), k ≤ ps.length ∧ i = .int .i64 k ∧ Hid (ChS wr cb wb.heap.size (en ++ entF l (ps.take k)) la us (.slice Ae2 (en ++ entF l (ps.take k)).length ce2) (.slice Au us.length cu)) ∧ Hid (Kb wb wr cb wb.heap.size) ∧ Hid (K78 W wr) ∧ Hid (wr.heap[bx]? = some (.cells #[.int .u8 xk, .int .u64 xf, .int .u64 xp, .int .i64 xn, .int .i64 xe, .slice xa ps.length xc] 78 (0, 0)))) (fun i _ => ps.length - (RowKit.intOf i).toNat)
  case atStart => exact ⟨0, Ae, ce, Nat.zero_le _, rfl, HC1, HK1, H78, HR1⟩
  case round =>
    obtain ⟨k, Ae2, ce2, hk, rfl, HC, HK, HE, HR⟩ := hrel
    by_cases hlt : k < ps.length
    · obtain ⟨gp, cp, hep, _, hgp, hcp⟩ := (HK.out.pls HBK.out HPLS.out).at_ hlt
      injection hep with hep1 _ hep2
      subst hep1 hep2
      have q1 := hcp k hlt
      have hpl2 := HPS.out _ (List.getElem_mem hlt)
      have hes := entF_snoc l ps k hlt hpl2
      obtain ⟨A', c', heA, _, hrA⟩ := HBK.out.pgs
      injection heA with e1 _ _
      obtain ⟨g, o, hA2, hgw, hpg⟩ := hrA (by omega)
      have hA : A = some ⟨g, o, none⟩ := e1.trans hA2
      clear e1 hA2 hrA
      subst hA
      have hbl := HK.out.bel HBK.out
      have hpa := (hpg _ hpl2).keep (W' := wr) (fun i => hbl.cell (p := ⟨g, i, none⟩) hgw)
      have hent := (HBK.out.ent _ (List.getElem_mem hpl2)).below hbl
      have hl0 : wr.cell? ⟨lb, 0, none⟩ = some (.slice (some ⟨g, o, none⟩) l.length c) := HK.out.cell (World.block_lt_of_cell? _ _ HBK.out.lbx) HBK.out.ne HBK.out.lbx
      have hyl := HLE.out _ (List.getElem_mem hpl2)
      obtain ⟨p, hp⟩ : ∃ p, p = ps[k] := ⟨_, rfl⟩
      simp only [← hp] at q1 hpl2 hes hpa hent hyl
      obtain ⟨y, hy⟩ : ∃ y, y = l[p] := ⟨_, rfl⟩
      simp only [← hy] at hes hpa hent hyl
      clear hy hp hcp hpg
      have q6 := hpa.c6
      have hcb := HC.out.blk
      have r0 : wr.cell? ⟨cb, 0, none⟩ = some (.slice Ae2 (en ++ entF l (ps.take k)).length ce2) := (cell_of_row _ _ 0 _ 52 (0, 0) hcb).trans rfl
      have hsz : (en ++ entF l (ps.take k)).length + y.es.length ≤ 100000000 := by
        have := entF_take l ps k
        rw [List.length_append]
        omega
      obtain ⟨B, d, W2, hrun, ho2, hg2⟩ := app_ent (W := wr.drew) (c := y.ec) (own_below8 HC.out.ve ((Below.refl _ _).drew)) (hent.below ((Below.refl _ _).drew)) hsz (by have := HK.out.size; simpa using this)
      have hcb2 := row_apart (W := wr.drew) (own_below8 HC.out.ve ((Below.refl _ _).drew)) hg2 hcb (by decide)
      have r2 : (W2.cell? ⟨cb, 0, none⟩) = some (.slice Ae2 (en ++ entF l (ps.take k)).length ce2) := (cell_of_row _ _ 0 _ 52 (0, 0) hcb2).trans rfl
      have f2 : W2.frozen? ⟨cb, 0, none⟩ = false := frozen_of_row W2 cb _ _ 52 hcb2
      have hk0 : (0 : Int) ≤ (k : Int) := by omega
      have hk1 : (k : Int) < (ps.length : Int) := by omega
      have hp0 : (0 : Int) ≤ (p : Int) := by omega
      have hp1 : (p : Int) < (l.length : Int) := by omega
      have HES := Lib.hid hes
      have HO2 := Lib.hid ho2
      have HG2 := Lib.hid hg2
      have HCB2 := Lib.hid hcb2
      clear hpa hent hbl hes ho2 hg2 hcb hcb2 hyl hsz
      obtain ⟨ys, ea, ec, es⟩ := y
      simp only [Pg.ev] at *
      generalize hN : (en ++ entF l (ps.take k)).length = N at *
      go_wp2
      go_region
      all_goals
        have hne : bx ≠ cb := fun e => by have := HBX.out; have := HBK.out.cb_lt; omega
        have hvb : ∀ j, (Value.slice Ae2 N ce2).ownBlock = some j → wb.heap.size ≤ j := fun j hj => (HC.out.ve.lt j hj).1
        have hap : (Value.slice Au us.length cu).ownBlock = none ∨ (Value.slice Au us.length cu).ownBlock ≠ (Value.slice Ae2 N ce2).ownBlock := own_apart HC.out.vu HC.out.ve (by decide)
        have hd : Below wr.heap.size wr wr.drew := (Below.refl _ _).drew
        have h1 : ChS (W2.setCell ⟨cb, 0, none⟩ (.slice B (N + es.length) d)) cb wb.heap.size (en ++ entF l (ps.take (k + 1))) la us (.slice B (en ++ entF l (ps.take (k + 1))).length d) (.slice Au us.length cu) := by
          have e2 : en ++ entF l (ps.take (k + 1)) = (en ++ entF l (ps.take k)) ++ es := by rw [HES.out, List.append_assoc]
          have e3 : ((en ++ entF l (ps.take k)) ++ es).length = N + es.length := by rw [List.length_append, hN]
          rw [e2, e3]
          refine ⟨heap_setCell_same _ _ 0 _ _ _ HCB2.out, ?_, ?_⟩
          · exact own_set HO2.out HCB2.out (by decide)
          · exact own_set ((own_below8 HC.out.vu hd).kept HG2.out hap) HCB2.out (by decide)
        have h2 : Kb wb (W2.setCell ⟨cb, 0, none⟩ (.slice B (N + es.length) d)) cb wb.heap.size :=
          ((HK.out.trans (Kb.of_below hd HK.out.size)).trans (Kb.of_grown HG2.out HK.out.size (fun j hj => .inl (hvb j hj)))).setCell 0 _
        have h3 : (W2.setCell ⟨cb, 0, none⟩ (.slice B (N + es.length) d)).heap[bx]? = some (.cells #[.int .u8 xk, .int .u64 xf, .int .u64 xp, .int .i64 xn, .int .i64 xe, .slice (some ⟨gp, 0, none⟩) ps.length xc] 78 (0, 0)) := by
          rw [heap_setCell_other W2 ⟨cb, 0, none⟩ bx _ hne]
          have := row_apart (own_below8 HC.out.ve hd) HG2.out (g := bx) HR.out (by decide)
          exact this
        have H4 : Hid (K78 W (W2.setCell ⟨cb, 0, none⟩ (.slice B (N + es.length) d))) := Lib.hid (((HE.out.trans (K78.below hd)).trans (K78.row (own_below8 HC.out.ve hd) HG2.out (by decide))).trans (K78.set HCB2.out (by decide)))
        have H1 := Lib.hid h1
        have H2 := Lib.hid h2
        have H3 := Lib.hid h3
        clear h1 h2 h3 hd hap hvb hne q1 q6 r0 r2 f2 hl0 hrun
        go_wp2
        go_roundw
        case rel => exact ⟨k + 1, B, d, by omega, by go_num, H1, H2, H4, H3⟩
        case measure => simp [RowKit.intOf]; omega
    · obtain rfl : k = ps.length := by omega
      rw [List.take_length] at HC
      have hcb := HC.out.blk
      have hpl := HK.out.pls HBK.out HPLS.out
      have hrow := HR.out
      have b0 : wr.cell? ⟨bx, 0, none⟩ = some (.int .u8 xk) := (cell_of_row _ _ 0 _ 78 (0, 0) hrow).trans rfl
      have b1 : wr.cell? ⟨bx, 1, none⟩ = some (.int .u64 xf) := (cell_of_row _ _ 1 _ 78 (0, 0) hrow).trans rfl
      have b2 : wr.cell? ⟨bx, 2, none⟩ = some (.int .u64 xp) := (cell_of_row _ _ 2 _ 78 (0, 0) hrow).trans rfl
      have b3 : wr.cell? ⟨bx, 3, none⟩ = some (.int .i64 xn) := (cell_of_row _ _ 3 _ 78 (0, 0) hrow).trans rfl
      have b5 : wr.cell? ⟨bx, 5, none⟩ = some (.slice xa ps.length xc) := (cell_of_row _ _ 5 _ 78 (0, 0) hrow).trans rfl
      have r2 : wr.cell? ⟨cb, 2, none⟩ = some (.slice Au us.length cu) := (cell_of_row _ _ 2 _ 52 (0, 0) hcb).trans rfl
      obtain ⟨B, d, W2, hrun, ho2, hg2⟩ := app_pls HC.out.vu hpl (by omega) HK.out.size
      have hcb2 := row_apart HC.out.vu hg2 hcb (by decide)
      have hrow2 := row_apart HC.out.vu hg2 hrow (by decide)
      have hne : bx ≠ cb := fun e => by have := HBX.out; have := HBK.out.cb_lt; omega
      have s2 : (W2.cell? ⟨cb, 2, none⟩) = some (.slice Au us.length cu) := (cell_of_row _ _ 2 _ 52 (0, 0) hcb2).trans rfl
      have f2 : W2.frozen? ⟨cb, 2, none⟩ = false := frozen_of_row W2 cb _ _ 52 hcb2
      have hap : (Value.slice Ae2 (en ++ entF l ps).length ce2).ownBlock = none ∨ (Value.slice Ae2 (en ++ entF l ps).length ce2).ownBlock ≠ (Value.slice Au us.length cu).ownBlock := own_apart HC.out.ve HC.out.vu (by decide)
      have hve2 := own_set (o := 2) (u := .slice B (us.length + ps.length) d) (HC.out.ve.kept hg2 hap) hcb2 (by decide)
      have hvu2 := own_set (o := 2) (u := .slice B (us.length + ps.length) d) ho2 hcb2 (by decide)
      have hk2 : Kb wb (W2.setCell ⟨cb, 2, none⟩ (.slice B (us.length + ps.length) d)) cb wb.heap.size := (HK.out.trans (Kb.of_grown hg2 HK.out.size (fun j hj => .inl (HC.out.vu.lt j hj).1))).setCell 2 _
      have hcb3 : (W2.setCell ⟨cb, 2, none⟩ (.slice B (us.length + ps.length) d)).heap[cb]? = some (.cells #[.slice Ae2 (en ++ entF l ps).length ce2, .int .u64 la, .slice B (us.length + ps.length) d] 52 (0, 0)) := heap_setCell_same W2 cb 2 _ 52 _ hcb2
      have hrow3 : (W2.setCell ⟨cb, 2, none⟩ (.slice B (us.length + ps.length) d)).heap[bx]? = some (.cells #[.int .u8 xk, .int .u64 xf, .int .u64 xp, .int .i64 xn, .int .i64 xe, .slice xa ps.length xc] 78 (0, 0)) := (heap_setCell_other W2 ⟨cb, 2, none⟩ bx _ hne).trans hrow2
      have HE2 := Lib.hid ((HE.out.trans (K78.row HC.out.vu hg2 (by decide))).trans (K78.set (o := 2) (u := .slice B (us.length + ps.length) d) hcb2 (by decide)))
      have HVE := Lib.hid hve2
      have HVU := Lib.hid hvu2
      have HK2 := Lib.hid hk2
      have HCB3 := Lib.hid hcb3
      have HROW3 := Lib.hid hrow3
      clear hpl hrow hcb ho2 hg2 hcb2 hrow2 hap hve2 hvu2 hk2 hcb3 hrow3 hne
      generalize hN : (en ++ entF l ps).length = N at *
      go_upto_region 7 with fail
      obtain ⟨W3, hW3⟩ : ∃ W3, W3 = W2.setCell ⟨cb, 2, none⟩ (.slice B (us.length + ps.length) d) := ⟨_, rfl⟩
      rw [← hW3] at HVE HVU HK2 HCB3 HROW3 HE2 ⊢
      clear hW3 b0 b1 b2 b3 b5 r2 s2 f2 hrun
      have hrow3 := HROW3.out
      have b0 : W3.cell? ⟨bx, 0, none⟩ = some (.int .u8 xk) := (cell_of_row _ _ 0 _ 78 (0, 0) hrow3).trans rfl
      have b1 : W3.cell? ⟨bx, 1, none⟩ = some (.int .u64 xf) := (cell_of_row _ _ 1 _ 78 (0, 0) hrow3).trans rfl
      have b2 : W3.cell? ⟨bx, 2, none⟩ = some (.int .u64 xp) := (cell_of_row _ _ 2 _ 78 (0, 0) hrow3).trans rfl
      have b3 : W3.cell? ⟨bx, 3, none⟩ = some (.int .i64 xn) := (cell_of_row _ _ 3 _ 78 (0, 0) hrow3).trans rfl
      clear hrow3
      go_wp2_with ((go_at_call 33; with_reducible refine (HLAST.out _).mono ?_); rintro e w4 ⟨rfl, hg4⟩; have hcb4 := (hg4.below.block _ (Array.getElem?_eq_some_iff.1 HCB3.out).1).trans HCB3.out; have s1 : (w4.cell? ⟨cb, 1, none⟩) = some (.int .u64 la) := (cell_of_row _ _ 1 _ 52 (0, 0) hcb4).trans rfl; have f1 : w4.frozen? ⟨cb, 1, none⟩ = false := frozen_of_row w4 cb _ _ 52 hcb4; have HG4 := Lib.hid hg4.below; have HCB4 := Lib.hid hcb4; clear hg4 hcb4)
      go_end0
      refine ⟨rfl, ⟨Ae2, ce2, B, d, ?_⟩, (HK2.out.trans (Kb.of_below HG4.out HK2.out.size)).setCell 1 _, (HE2.out.trans (K78.below HG4.out)).trans (K78.set HCB4.out (by decide))⟩
      have e1 : (en ++ entF l ps).length = N := hN
      have e2 : (us ++ ps).length = us.length + ps.length := List.length_append
      rw [e1, e2]
      exact ⟨heap_setCell_same w4 cb 1 _ 52 _ HCB4.out, (by rw [e1]; exact own_set (own_below8 HVE.out HG4.out) HCB4.out (by decide)), own_set (own_below8 HVU.out HG4.out) HCB4.out (by decide)⟩
end Go.Proofs.Ytajlddgemkkcdaa
