/- One call on a device and its reference: Program, Erase, Cut. Conditions stand in each theorem. -/
import Derived.Test.YtddejcoagcaidaaDN
import Derived.Test.YtddejcoagcaidaaDK
import Derived.Test.YtddejcoagcaidaaDF
import Derived.Test.YtddejcoagcaidaaBB
import Derived.Deep.RegionHeld3
namespace Go.Proofs.Ytddejcoagcaidaa
open Go.RowKit
set_option linter.unusedVariables false
set_option maxHeartbeats 16000000
set_option maxRecDepth 100000
/-- Only a normal end. -/
def nrm (Q : Exit → Act → World → Prop) : Exit → Act → World → Prop
  | .normal, a, w => Q .normal a w
  | _, _, _ => False
theorem nrm_le {Q : Exit → Act → World → Prop} : ∀ (e : Exit) (a : Act) (w : World), nrm Q e a w → Q e a w
  | .normal, _, _, h => h
  | .ret, _, _, h => h.elim
  | .exit _, _, _, h => h.elim
  | .goto _, _, _, h => h.elim
  | .panic _, _, _, h => h.elim
  | .outgrown, _, _, h => h.elim
/-- The load and the store of the reference's device, under names of their own. -/
def loadX (p : Addr) : Sem Value := loadVar 35 p
def storeX (p : Addr) (v : Value) : Sem Unit := storeVar 35 p v
theorem loadX_eq (p : Addr) : loadVar 35 p = loadX p := rfl
theorem storeX_eq (p : Addr) (v : Value) : storeVar 35 p v = storeX p v := rfl
/-- The cells of a device's variable. -/
structure R35 (R : Array Value) : Prop where
  size : (Try.prog.info? 35).map (·.size) = some R.size
  one : R.all (·.oneCell') = true
theorem R35.rd {w : World} {fs : List Int} {s : Dev} {vf vp ve : Value} {pb : Int} (h : Rd w fs s vf vp ve pb) : R35 (rdv s vf vp ve pb) := by
  obtain ⟨⟨A1, n1, c1, rfl⟩, ⟨A2, n2, c2, rfl⟩, ⟨A3, n3, c3, rfl⟩⟩ := h.forms
  exact ⟨info35, by simp [rdv, Value.oneCell']⟩
theorem R35.len {R : Array Value} (h : R35 R) : R.size = 11 := by
  have := h.size
  rw [info35] at this
  injection this with e
  exact e.symm
theorem R35.load {R : Array Value} (h : R35 R) {W : World} {g : Nat} (hg : W.heap[g]? = some (.cells R 35 (0, 0))) : (loadX ⟨g, 0, none⟩).run Try.prog W = .ok (.agg R) W :=
  run_loadVar_row W g 35 35 R (0, 0) _ hg Try.underlying35 rfl h.size
theorem R35.store {R : Array Value} (h : R35 R) {W : World} {g : Nat} {old : Array Value} (hg : W.heap[g]? = some (.cells old 35 (0, 0))) (ho : old.size = 11) : (storeX ⟨g, 0, none⟩ (.agg R)).run Try.prog W = .ok () (W.setRow g R) :=
  run_storeVar_row W g 35 35 old R hg h.size (ho.trans h.len.symm) h.one
/-- The three boxes of act. -/
structure AB (w : World) (R : Array Value) (X : KA) (W : World) : Prop where
  size : w.heap.size + 1 + 1 < W.heap.size
  b4 : W.heap[w.heap.size]? = some (.cells R 35 (0, 0))
  b5 : W.heap[w.heap.size + 1]? = some (.cells X.enc.toArray 43 (0, 0))
  b6 : W.heap[w.heap.size + 1 + 1]? = some (.cells #[.int .i64 0, .int .i64 0, .int .i64 0, .int .i64 0, .slice none 0 0, .slice none 0 0, .slice none 0 0, .int .i64 0, .int .i64 0, .int .i64 0, .bool false] 35 (0, 0))
/-- The first two boxes of act. -/
structure AC (w : World) (R : Array Value) (X : KA) (W : World) : Prop where
  size : w.heap.size + 1 + 1 < W.heap.size
  b4 : W.heap[w.heap.size]? = some (.cells R 35 (0, 0))
  b5 : W.heap[w.heap.size + 1]? = some (.cells X.enc.toArray 43 (0, 0))
theorem AB.ac {w W : World} {R : Array Value} {X : KA} (h : AB w R X W) : AC w R X W := ⟨h.size, h.b4, h.b5⟩
theorem AC.at {w W : World} {R : Array Value} {X : KA} (h : AC w R X W) :
    W.cell? ⟨w.heap.size + 1, 0, none⟩ = some (.int .i64 X.wh) ∧ W.cell? ⟨w.heap.size + 1, 1, none⟩ = some (.int .i64 X.bl) ∧ W.cell? ⟨w.heap.size + 1, 2, none⟩ = some (.int .i64 X.pg) ∧ W.cell? ⟨w.heap.size + 1, 3, none⟩ = some X.vd ∧ W.cell? ⟨w.heap.size + 1, 4, none⟩ = some X.vs := by
  have e := fun k => cell_of_row W (w.heap.size + 1) k _ 43 (0, 0) h.b5
  exact ⟨e 0, e 1, e 2, e 3, e 4⟩
theorem AB.start (w : World) (R : Array Value) (X : KA) : AB w R X (((w.alloc (.cells R 35)).alloc (.cells X.enc.toArray 43)).alloc (.cells #[.int .i64 0, .int .i64 0, .int .i64 0, .int .i64 0, .slice none 0 0, .slice none 0 0, .slice none 0 0, .int .i64 0, .int .i64 0, .int .i64 0, .bool false] 35)) := by
  obtain ⟨h1, h2, h3, -⟩ := three_new w (.cells R 35) (.cells X.enc.toArray 43) (.cells #[.int .i64 0, .int .i64 0, .int .i64 0, .int .i64 0, .slice none 0 0, .slice none 0 0, .slice none 0 0, .int .i64 0, .int .i64 0, .int .i64 0, .bool false] 35)
  exact ⟨by simp, h1, h2, h3⟩
theorem AB.below {w W W' : World} {R : Array Value} {X : KA} (h : AB w R X W) (hb : Below W.heap.size W W') : AB w R X W' :=
  ⟨Nat.lt_of_lt_of_le h.size hb.size, (hb.block _ (by have := h.size; omega)).trans h.b4, (hb.block _ (by have := h.size; omega)).trans h.b5, (hb.block _ h.size).trans h.b6⟩
theorem AB.at {w W : World} {R : Array Value} {X : KA} (h : AB w R X W) :
    W.cell? ⟨w.heap.size + 1, 0, none⟩ = some (.int .i64 X.wh) ∧ W.cell? ⟨w.heap.size + 1, 1, none⟩ = some (.int .i64 X.bl) ∧ W.cell? ⟨w.heap.size + 1, 2, none⟩ = some (.int .i64 X.pg) ∧ W.cell? ⟨w.heap.size + 1, 3, none⟩ = some X.vd ∧ W.cell? ⟨w.heap.size + 1, 4, none⟩ = some X.vs := by
  have e := fun k => cell_of_row W (w.heap.size + 1) k _ 43 (0, 0) h.b5
  exact ⟨e 0, e 1, e 2, e 3, e 4⟩
theorem AB.put {w W : World} {R : Array Value} {X : KA} (h : AB w R X W) (cs : Array Value) : AC w R X (W.setRow (w.heap.size + 1 + 1) cs) :=
  ⟨by rw [size_setRow]; exact h.size, (setRow_other W _ _ _ (by omega)).trans h.b4, (setRow_other W _ _ _ (by omega)).trans h.b5⟩
/-- What a call on both leaves. -/
def ActPost (w : World) (base b g m : Nat) (V : Nat → Value) (fs : List Int) (s s' : Dev) (e : Ending) (w' : World) : Prop :=
  ∃ vf vp ve pb, e = .returned (.tuple #[.agg (rdv s' vf vp ve pb), .bool true]) ∧ Rd w' fs s' vf vp ve pb ∧ Step w base b g m V s s' w'
theorem Chg.kt {base b g m : Nat} {V : Nat → Value} {s : Dev} {w w' : World} (h : Dv w base b g m V s) (hc : Chg (Foot s b g m V) w w') : KT w w' :=
  ⟨hc.size, fun k cur ty fr hk ht => (hc.block k (Array.getElem?_eq_some_iff.1 hk).1 (h.off_ty hk (by rcases ht with rfl | rfl | rfl | rfl <;> decide) (by rcases ht with rfl | rfl | rfl | rfl <;> decide) (by rcases ht with rfl | rfl | rfl | rfl <;> decide))).trans hk⟩
theorem setRow_kt {W : World} {g : Nat} {cs : Array Value} {old : Array Value} (hg : W.heap[g]? = some (.cells old 35 (0, 0))) : KT W (W.setRow g cs) :=
  ⟨by rw [size_setRow]; exact Nat.le_refl _, fun k cur ty fr hk ht => by
    by_cases e : k = g
    · subst e
      have := ty_ne hg hk
      subst this
      rcases ht with h | h | h | h <;> exact absurd h (by decide)
    · exact (setRow_other W g k cs e).trans hk⟩
theorem Step.setRow {w W : World} {base b g m q : Nat} {V : Nat → Value} {s s' : Dev} (h : Step w base b g m V s s' W) {old cs : Array Value} (hq : W.heap[q]? = some (.cells old 35 (0, 0))) (hw : w.heap.size ≤ q) : Step w base b g m V s s' (W.setRow q cs) := by
  obtain ⟨V', h1, h2, h3⟩ := h
  have hc : Chg (· = q) W (W.setRow q cs) := ⟨rfl, rfl, rfl, by rw [size_setRow]; exact Nat.le_refl _, fun k _ hk => setRow_other W q k cs hk⟩
  refine ⟨V', h1.chg hc (fun k hk e => ?_) (fun k hk e cs' fr e2 => ?_), h2.trans hc (fun i hi hl => absurd hl (by omega)), h3⟩
  · subst e
    exact h1.off_ty hq (by decide) (by decide) (by decide) hk
  · subst e
    have := ty_ne hq e2
    exact absurd this (by decide)
attribute [local go_sem ↓ 100000] loadX_eq storeX_eq
theorem act_pr0 {w : World} {base b g m : Nat} {V : Nat → Value} {fs : List Int} {s : Dev} {vf vp ve : Value} {pb : Int} (h : Dv w base b g m V s) (hg : Gd s) (hr : Rd w fs s vf vp ve pb) (hn : s.n ≤ 1000000000) (hl : fs.length ≤ 1000) (X : KA)  (w0 : (X.wh == 0) = true) (hX : X.ok w) (hx : X.x.length ≤ 100000) (hy : X.y.length ≤ 100000) (od : Off (· = b) X.vd X.x) (os : Off (· = b) X.vs X.y) :
    Calls Try.prog 14 #[.pointer (some ⟨b, 0, none⟩), .agg (rdv s vf vp ve pb), .agg X.enc.toArray] w (ActPost w base b g m V fs s (s.prS X.bl X.pg X.x X.y)) := by
  have HR0 := Lib.hid (R35.rd hr)
  have HA0 := Lib.hid (AB.start w (rdv s vf vp ve pb) X)
  obtain ⟨R0, hR0⟩ : ∃ R0, R0 = rdv s vf vp ve pb := ⟨_, rfl⟩
  have hE0 := (three_new w (.cells (rdv s vf vp ve pb) 35) (.cells X.enc.toArray 43) (.cells #[.int .i64 0, .int .i64 0, .int .i64 0, .int .i64 0, .slice none 0 0, .slice none 0 0, .slice none 0 0, .int .i64 0, .int .i64 0, .int .i64 0, .bool false] 35)).2.2.2
  rw [← hR0] at HR0 HA0 hE0 ⊢
  obtain ⟨E, hE⟩ : ∃ E, E = ((w.alloc (.cells R0 35)).alloc (.cells X.enc.toArray 43)).alloc (.cells #[.int .i64 0, .int .i64 0, .int .i64 0, .int .i64 0, .slice none 0 0, .slice none 0 0, .slice none 0 0, .int .i64 0, .int .i64 0, .int .i64 0, .bool false] 35) := ⟨_, rfl⟩
  rw [← hE] at HA0 hE0
  have HC1 := Lib.hid (rProgram_any (hr.below hE0) hg hn hl X.bl X.pg (hX.1.below hE0) (hX.2.below hE0) hx hy (Nat.le_trans h.lowle hE0.size))
  have HC2 := Lib.hid (fun W (hb : Below w.heap.size w W) => Program_any (h.below hb) hg hn X.bl X.pg (hX.1.below hb) (hX.2.below hb) od os)
  have HBE := Lib.hid hE0
  have HH := Lib.hid h
  have HRR := Lib.hid hr
  obtain ⟨k0, k1, k2, k3, k4⟩ := HA0.out.at
  have hld := HR0.out.load HA0.out.b4
  rw [← hR0] at HC1
  obtain ⟨S1, hS1⟩ : ∃ S1, S1 = (s.prS X.bl X.pg X.x X.y) := ⟨_, rfl⟩
  obtain ⟨E1, hE1⟩ : ∃ E1, E1 = (s.prE X.bl X.pg X.x X.y) := ⟨_, rfl⟩
  rw [← hS1] at HC1 HC2 ⊢
  rw [← hE1] at HC1 HC2

  clear h hr hg hn hl hE0 hS1 hE1 hR0 hX hx hy od os
  unfold KA.enc at hE ⊢
  obtain ⟨wh, bl, pg, vd, vs, x, y⟩ := X
  simp only at k0 k1 k2 k3 k4 HC1 HC2 hE w0 ⊢
  go_enter Try.func14, Try.ntmps14
  go_upto_region 1 with fail
  rw [← hE]
  clear hE
  go_upto_region 7 with ((go_at_call 35; with_reducible refine HC1.out.mono ?_); rintro e w3 ⟨vf1, vp1, ve1, pb1, rfl, hr3, hb3⟩; obtain ⟨R3, hR3⟩ : ∃ R3, R3 = rdv S1 vf1 vp1 ve1 pb1 := ⟨_, rfl⟩; rw [← hR3]; have HR3 := Lib.hid (hR3 ▸ R35.rd hr3); have HRD3 := Lib.hid (And.intro hr3 hR3); have V1 := HR3.out.store (heap_alloc_new w3 (.cells #[.int .i64 0, .int .i64 0, .int .i64 0, .int .i64 0, .slice none 0 0, .slice none 0 0, .slice none 0 0, .int .i64 0, .int .i64 0, .int .i64 0, .bool false] 35)) rfl; have HB3 := Lib.hid hb3; clear hr3 hb3 hR3)
  have hz3 : w.heap.size + 1 + 1 < w3.heap.size := Nat.lt_of_lt_of_le HA0.out.size HB3.out.size
  obtain ⟨W4, hW4⟩ : ∃ W4, W4 = (w3.alloc (.cells #[.int .i64 0, .int .i64 0, .int .i64 0, .int .i64 0, .slice none 0 0, .slice none 0 0, .slice none 0 0, .int .i64 0, .int .i64 0, .int .i64 0, .bool false] 35)).setRow w3.heap.size R3 := ⟨_, rfl⟩
  have hr4 : W4.heap[w3.heap.size]? = some (.cells R3 35 (0, 0)) := by rw [hW4]; exact setRow_at (heap_alloc_new w3 _)
  have hb4 : Below w3.heap.size w3 W4.drew := by rw [hW4]; exact (setRow_below (balloc w3 _) (Nat.le_refl _)).drew
  rw [← hW4]
  clear hW4 V1 k0 k1 k2 k3 k4 hld HC1
  obtain ⟨Y, hY⟩ : ∃ Y, Y = w3.heap.size := ⟨_, rfl⟩
  have hYl : Y < W4.heap.size := by rw [hY]; exact (Array.getElem?_eq_some_iff.1 hr4).1
  have HA4 := Lib.hid ((HA0.out.below HB3.out).below hb4)
  have HB4 := Lib.hid (HBE.out.trans ((HB3.out.trans (hb4.mono HB3.out.size)).mono HBE.out.size))
  obtain ⟨hr3, hR3⟩ := HRD3.out
  have HRD4 := Lib.hid (And.intro (hr3.below hb4) hR3)
  rw [← hY] at hr4 ⊢
  have l4 := HR3.out.load (W := W4.drew) hr4
  obtain ⟨k0, k1, k2, k3, k4⟩ := HA4.out.at
  simp only at k0 k1 k2 k3 k4
  have HC3 := Lib.hid (HC2.out W4.drew HB4.out)
  have HH4 := Lib.hid (HH.out.below HB4.out)
  have HR4 := Lib.hid (show W4.drew.heap[Y]? = some (.cells R3 35 (0, 0)) from hr4)
  have HZ := Lib.hid (show w.heap.size + 1 + 1 < Y by omega)
  clear hr4 hb4 hY hz3 hr3 hR3 HA0 HC2 HRD3
  have HSS := Lib.hid (fun (W : World) (hA : AC w R0 ⟨wh, bl, pg, vd, vs, x, y⟩ W) (hY : W.heap[Y]? = some (.cells R3 35 (0, 0))) => (show W.cell? ⟨w.heap.size + 1, 1, none⟩ = some (.int .i64 bl) ∧ W.cell? ⟨w.heap.size + 1, 2, none⟩ = some (.int .i64 pg) ∧ W.cell? ⟨w.heap.size + 1, 3, none⟩ = some vd ∧ W.cell? ⟨w.heap.size + 1, 4, none⟩ = some vs ∧ (loadX ⟨Y, 0, none⟩).run Try.prog W = .ok (.agg R3) W from ⟨hA.at.2.1, hA.at.2.2.1, hA.at.2.2.2.1, hA.at.2.2.2.2, HR3.out.load hY⟩))
  have S4 := HSS.out W4.drew HA4.out.ac HR4.out
  clear k0 k1 k2 k3 k4 l4
  go_region_held3 (fun W => W.cell? ⟨w.heap.size + 1, 1, none⟩ = some (.int .i64 bl) ∧ W.cell? ⟨w.heap.size + 1, 2, none⟩ = some (.int .i64 pg) ∧ W.cell? ⟨w.heap.size + 1, 3, none⟩ = some vd ∧ W.cell? ⟨w.heap.size + 1, 4, none⟩ = some vs ∧ (loadX ⟨Y, 0, none⟩).run Try.prog W = .ok (.agg R3) W) (first | assumption)
    (first
    | ((go_at_call 23; with_reducible refine HC3.out.mono ?_); rintro e W5 ⟨rfl, hst⟩; obtain ⟨V5, hv5, hc5, hf5⟩ := id hst; have o5 : ∀ (k : Nat) (cs : Array Value) (t : TypeId), W4.drew.heap[k]? = some (.cells cs t (0, 0)) → t ≠ 64 → t ≠ 94 → t ≠ 91 → W5.heap[k]? = some (.cells cs t (0, 0)) := fun k cs t hk n1 n2 n3 => (hc5.block k (Array.getElem?_eq_some_iff.1 hk).1 (HH4.out.off_ty hk n1 n2 n3)).trans hk; have hr5 := o5 _ _ _ HR4.out (by decide) (by decide) (by decide); have ha5 : AB w R0 ⟨wh, bl, pg, vd, vs, x, y⟩ W5 := ⟨Nat.lt_of_lt_of_le HA4.out.size hc5.size, o5 _ _ _ HA4.out.b4 (by decide) (by decide) (by decide), o5 _ _ _ HA4.out.b5 (by decide) (by decide) (by decide), o5 _ _ _ HA4.out.b6 (by decide) (by decide) (by decide)⟩; have S5 := HSS.out W5 ha5.ac hr5; have S6 := HSS.out (W5.setRow (w.heap.size + 1 + 1) R3) (ha5.put R3) ((setRow_other W5 _ _ _ (by have := HZ.out; omega)).trans hr5); have V6 := HR3.out.store ha5.b6 rfl; have H65 := Lib.hid ha5.b6; have HK5 := Lib.hid (Chg.kt HH4.out hc5); have HST := Lib.hid hst; clear hst hv5 hc5 hf5 o5 hr5 ha5)
    | ((go_at_call 13; with_reducible refine (num_any _ _).mono ?_); rintro e w' ⟨rfl, rfl⟩))
  clear S4 HSS
  obtain ⟨R3', hR3'⟩ : ∃ R3', R3' = R3 := ⟨_, rfl⟩
  have HBF := Lib.hid HB4.out
  have HFIN : Hid (ActPost w base b g m V fs s S1 (.returned (.tuple #[.agg R3, .bool true])) (W5.setRow (w.heap.size + 1 + 1) R3)) := Lib.hid (by
    obtain ⟨hr3, hR3⟩ := HRD4.out
    refine ⟨vf1, vp1, ve1, pb1, by rw [hR3], (hr3.kt HK5.out).kt (setRow_kt H65.out), (HST.out.of_below HB4.out).setRow H65.out (by omega)⟩)
  go_wp2
  (try simp only [Exit.inBlock, Exit.then])
  refine bodyPost_ret (v := .tuple #[.agg R3, .bool true]) ?_ rfl HFIN.out
  exact results_row1 (a := 6) (b := 7) (ty := 35) rfl _ _ (w.heap.size + 1 + 1) 35 R3 (0, 0) _ rfl (setRow_at H65.out) Try.underlying35 rfl HR3.out.size
theorem act_pr1 {w : World} {base b g m : Nat} {V : Nat → Value} {fs : List Int} {s : Dev} {vf vp ve : Value} {pb : Int} (h : Dv w base b g m V s) (hg : Gd s) (hr : Rd w fs s vf vp ve pb) (hn : s.n ≤ 1000000000) (hl : fs.length ≤ 1000) (X : KA) (w0 : (X.wh == 0) = false) (w1 : (X.wh == 1) = true) (hX : X.ok w) (hx : X.x.length ≤ 100000) (hy : X.y.length ≤ 100000) (od : Off (· = b) X.vd X.x) (os : Off (· = b) X.vs X.y) :
    Calls Try.prog 14 #[.pointer (some ⟨b, 0, none⟩), .agg (rdv s vf vp ve pb), .agg X.enc.toArray] w (ActPost w base b g m V fs s (s.prS X.bl X.pg X.x X.y)) := by
  have HR0 := Lib.hid (R35.rd hr)
  have HA0 := Lib.hid (AB.start w (rdv s vf vp ve pb) X)
  obtain ⟨R0, hR0⟩ : ∃ R0, R0 = rdv s vf vp ve pb := ⟨_, rfl⟩
  have hE0 := (three_new w (.cells (rdv s vf vp ve pb) 35) (.cells X.enc.toArray 43) (.cells #[.int .i64 0, .int .i64 0, .int .i64 0, .int .i64 0, .slice none 0 0, .slice none 0 0, .slice none 0 0, .int .i64 0, .int .i64 0, .int .i64 0, .bool false] 35)).2.2.2
  rw [← hR0] at HR0 HA0 hE0 ⊢
  obtain ⟨E, hE⟩ : ∃ E, E = ((w.alloc (.cells R0 35)).alloc (.cells X.enc.toArray 43)).alloc (.cells #[.int .i64 0, .int .i64 0, .int .i64 0, .int .i64 0, .slice none 0 0, .slice none 0 0, .slice none 0 0, .int .i64 0, .int .i64 0, .int .i64 0, .bool false] 35) := ⟨_, rfl⟩
  rw [← hE] at HA0 hE0
  have HC1 := Lib.hid (rProgram_any (hr.below hE0) hg hn hl X.bl X.pg (hX.1.below hE0) (hX.2.below hE0) hx hy (Nat.le_trans h.lowle hE0.size))
  have HC2 := Lib.hid (fun W (hb : Below w.heap.size w W) => Program_any (h.below hb) hg hn X.bl X.pg (hX.1.below hb) (hX.2.below hb) od os)
  have HBE := Lib.hid hE0
  have HH := Lib.hid h
  have HRR := Lib.hid hr
  obtain ⟨k0, k1, k2, k3, k4⟩ := HA0.out.at
  have hld := HR0.out.load HA0.out.b4
  rw [← hR0] at HC1
  obtain ⟨S1, hS1⟩ : ∃ S1, S1 = (s.prS X.bl X.pg X.x X.y) := ⟨_, rfl⟩
  obtain ⟨E1, hE1⟩ : ∃ E1, E1 = (s.prE X.bl X.pg X.x X.y) := ⟨_, rfl⟩
  rw [← hS1] at HC1 HC2 ⊢
  rw [← hE1] at HC1 HC2

  clear h hr hg hn hl hE0 hS1 hE1 hR0 hX hx hy od os
  unfold KA.enc at hE ⊢
  obtain ⟨wh, bl, pg, vd, vs, x, y⟩ := X
  simp only at k0 k1 k2 k3 k4 HC1 HC2 hE w0 w1 ⊢
  go_enter Try.func14, Try.ntmps14
  go_upto_region 1 with fail
  rw [← hE]
  clear hE
  go_upto_region 7 with ((go_at_call 35; with_reducible refine HC1.out.mono ?_); rintro e w3 ⟨vf1, vp1, ve1, pb1, rfl, hr3, hb3⟩; obtain ⟨R3, hR3⟩ : ∃ R3, R3 = rdv S1 vf1 vp1 ve1 pb1 := ⟨_, rfl⟩; rw [← hR3]; have HR3 := Lib.hid (hR3 ▸ R35.rd hr3); have HRD3 := Lib.hid (And.intro hr3 hR3); have V1 := HR3.out.store (heap_alloc_new w3 (.cells #[.int .i64 0, .int .i64 0, .int .i64 0, .int .i64 0, .slice none 0 0, .slice none 0 0, .slice none 0 0, .int .i64 0, .int .i64 0, .int .i64 0, .bool false] 35)) rfl; have HB3 := Lib.hid hb3; clear hr3 hb3 hR3)
  have hz3 : w.heap.size + 1 + 1 < w3.heap.size := Nat.lt_of_lt_of_le HA0.out.size HB3.out.size
  obtain ⟨W4, hW4⟩ : ∃ W4, W4 = (w3.alloc (.cells #[.int .i64 0, .int .i64 0, .int .i64 0, .int .i64 0, .slice none 0 0, .slice none 0 0, .slice none 0 0, .int .i64 0, .int .i64 0, .int .i64 0, .bool false] 35)).setRow w3.heap.size R3 := ⟨_, rfl⟩
  have hr4 : W4.heap[w3.heap.size]? = some (.cells R3 35 (0, 0)) := by rw [hW4]; exact setRow_at (heap_alloc_new w3 _)
  have hb4 : Below w3.heap.size w3 W4.drew := by rw [hW4]; exact (setRow_below (balloc w3 _) (Nat.le_refl _)).drew
  rw [← hW4]
  clear hW4 V1 k0 k1 k2 k3 k4 hld HC1
  obtain ⟨Y, hY⟩ : ∃ Y, Y = w3.heap.size := ⟨_, rfl⟩
  have hYl : Y < W4.heap.size := by rw [hY]; exact (Array.getElem?_eq_some_iff.1 hr4).1
  have HA4 := Lib.hid ((HA0.out.below HB3.out).below hb4)
  have HB4 := Lib.hid (HBE.out.trans ((HB3.out.trans (hb4.mono HB3.out.size)).mono HBE.out.size))
  obtain ⟨hr3, hR3⟩ := HRD3.out
  have HRD4 := Lib.hid (And.intro (hr3.below hb4) hR3)
  rw [← hY] at hr4 ⊢
  have l4 := HR3.out.load (W := W4.drew) hr4
  obtain ⟨k0, k1, k2, k3, k4⟩ := HA4.out.at
  simp only at k0 k1 k2 k3 k4
  have HC3 := Lib.hid (HC2.out W4.drew HB4.out)
  have HH4 := Lib.hid (HH.out.below HB4.out)
  have HR4 := Lib.hid (show W4.drew.heap[Y]? = some (.cells R3 35 (0, 0)) from hr4)
  have HZ := Lib.hid (show w.heap.size + 1 + 1 < Y by omega)
  clear hr4 hb4 hY hz3 hr3 hR3 HA0 HC2 HRD3
  have HSS := Lib.hid (fun (W : World) (hA : AC w R0 ⟨wh, bl, pg, vd, vs, x, y⟩ W) (hY : W.heap[Y]? = some (.cells R3 35 (0, 0))) => (show W.cell? ⟨w.heap.size + 1, 1, none⟩ = some (.int .i64 bl) ∧ W.cell? ⟨w.heap.size + 1, 2, none⟩ = some (.int .i64 pg) ∧ W.cell? ⟨w.heap.size + 1, 3, none⟩ = some vd ∧ W.cell? ⟨w.heap.size + 1, 4, none⟩ = some vs ∧ (loadX ⟨Y, 0, none⟩).run Try.prog W = .ok (.agg R3) W from ⟨hA.at.2.1, hA.at.2.2.1, hA.at.2.2.2.1, hA.at.2.2.2.2, HR3.out.load hY⟩))
  have S4 := HSS.out W4.drew HA4.out.ac HR4.out
  clear k0 k1 k2 k3 k4 l4
  go_region_held3 (fun W => W.cell? ⟨w.heap.size + 1, 1, none⟩ = some (.int .i64 bl) ∧ W.cell? ⟨w.heap.size + 1, 2, none⟩ = some (.int .i64 pg) ∧ W.cell? ⟨w.heap.size + 1, 3, none⟩ = some vd ∧ W.cell? ⟨w.heap.size + 1, 4, none⟩ = some vs ∧ (loadX ⟨Y, 0, none⟩).run Try.prog W = .ok (.agg R3) W) (first | assumption)
    (first
    | ((go_at_call 23; with_reducible refine HC3.out.mono ?_); rintro e W5 ⟨rfl, hst⟩; obtain ⟨V5, hv5, hc5, hf5⟩ := id hst; have o5 : ∀ (k : Nat) (cs : Array Value) (t : TypeId), W4.drew.heap[k]? = some (.cells cs t (0, 0)) → t ≠ 64 → t ≠ 94 → t ≠ 91 → W5.heap[k]? = some (.cells cs t (0, 0)) := fun k cs t hk n1 n2 n3 => (hc5.block k (Array.getElem?_eq_some_iff.1 hk).1 (HH4.out.off_ty hk n1 n2 n3)).trans hk; have hr5 := o5 _ _ _ HR4.out (by decide) (by decide) (by decide); have ha5 : AB w R0 ⟨wh, bl, pg, vd, vs, x, y⟩ W5 := ⟨Nat.lt_of_lt_of_le HA4.out.size hc5.size, o5 _ _ _ HA4.out.b4 (by decide) (by decide) (by decide), o5 _ _ _ HA4.out.b5 (by decide) (by decide) (by decide), o5 _ _ _ HA4.out.b6 (by decide) (by decide) (by decide)⟩; have S5 := HSS.out W5 ha5.ac hr5; have S6 := HSS.out (W5.setRow (w.heap.size + 1 + 1) R3) (ha5.put R3) ((setRow_other W5 _ _ _ (by have := HZ.out; omega)).trans hr5); have V6 := HR3.out.store ha5.b6 rfl; have H65 := Lib.hid ha5.b6; have HK5 := Lib.hid (Chg.kt HH4.out hc5); have HST := Lib.hid hst; clear hst hv5 hc5 hf5 o5 hr5 ha5)
    | ((go_at_call 13; with_reducible refine (num_any _ _).mono ?_); rintro e w' ⟨rfl, rfl⟩))
  clear S4 HSS
  obtain ⟨R3', hR3'⟩ : ∃ R3', R3' = R3 := ⟨_, rfl⟩
  have HBF := Lib.hid HB4.out
  have HFIN : Hid (ActPost w base b g m V fs s S1 (.returned (.tuple #[.agg R3, .bool true])) (W5.setRow (w.heap.size + 1 + 1) R3)) := Lib.hid (by
    obtain ⟨hr3, hR3⟩ := HRD4.out
    refine ⟨vf1, vp1, ve1, pb1, by rw [hR3], (hr3.kt HK5.out).kt (setRow_kt H65.out), (HST.out.of_below HB4.out).setRow H65.out (by omega)⟩)
  go_wp2
  (try simp only [Exit.inBlock, Exit.then])
  refine bodyPost_ret (v := .tuple #[.agg R3, .bool true]) ?_ rfl HFIN.out
  exact results_row1 (a := 6) (b := 7) (ty := 35) rfl _ _ (w.heap.size + 1 + 1) 35 R3 (0, 0) _ rfl (setRow_at H65.out) Try.underlying35 rfl HR3.out.size
theorem act_pr2 {w : World} {base b g m : Nat} {V : Nat → Value} {fs : List Int} {s : Dev} {vf vp ve : Value} {pb : Int} (h : Dv w base b g m V s) (hg : Gd s) (hr : Rd w fs s vf vp ve pb) (hn : s.n ≤ 1000000000) (hl : fs.length ≤ 1000) (X : KA) (w0 : (X.wh == 0) = false) (w1 : (X.wh == 1) = false) (w2 : (X.wh == 2) = true) (hX : X.ok w) (hx : X.x.length ≤ 100000) (hy : X.y.length ≤ 100000) (od : Off (· = b) X.vd X.x) (os : Off (· = b) X.vs X.y) :
    Calls Try.prog 14 #[.pointer (some ⟨b, 0, none⟩), .agg (rdv s vf vp ve pb), .agg X.enc.toArray] w (ActPost w base b g m V fs s (s.prS X.bl X.pg X.x X.y)) := by
  have HR0 := Lib.hid (R35.rd hr)
  have HA0 := Lib.hid (AB.start w (rdv s vf vp ve pb) X)
  obtain ⟨R0, hR0⟩ : ∃ R0, R0 = rdv s vf vp ve pb := ⟨_, rfl⟩
  have hE0 := (three_new w (.cells (rdv s vf vp ve pb) 35) (.cells X.enc.toArray 43) (.cells #[.int .i64 0, .int .i64 0, .int .i64 0, .int .i64 0, .slice none 0 0, .slice none 0 0, .slice none 0 0, .int .i64 0, .int .i64 0, .int .i64 0, .bool false] 35)).2.2.2
  rw [← hR0] at HR0 HA0 hE0 ⊢
  obtain ⟨E, hE⟩ : ∃ E, E = ((w.alloc (.cells R0 35)).alloc (.cells X.enc.toArray 43)).alloc (.cells #[.int .i64 0, .int .i64 0, .int .i64 0, .int .i64 0, .slice none 0 0, .slice none 0 0, .slice none 0 0, .int .i64 0, .int .i64 0, .int .i64 0, .bool false] 35) := ⟨_, rfl⟩
  rw [← hE] at HA0 hE0
  have HC1 := Lib.hid (rProgram_any (hr.below hE0) hg hn hl X.bl X.pg (hX.1.below hE0) (hX.2.below hE0) hx hy (Nat.le_trans h.lowle hE0.size))
  have HC2 := Lib.hid (fun W (hb : Below w.heap.size w W) => Program_any (h.below hb) hg hn X.bl X.pg (hX.1.below hb) (hX.2.below hb) od os)
  have HBE := Lib.hid hE0
  have HH := Lib.hid h
  have HRR := Lib.hid hr
  obtain ⟨k0, k1, k2, k3, k4⟩ := HA0.out.at
  have hld := HR0.out.load HA0.out.b4
  rw [← hR0] at HC1
  obtain ⟨S1, hS1⟩ : ∃ S1, S1 = (s.prS X.bl X.pg X.x X.y) := ⟨_, rfl⟩
  obtain ⟨E1, hE1⟩ : ∃ E1, E1 = (s.prE X.bl X.pg X.x X.y) := ⟨_, rfl⟩
  rw [← hS1] at HC1 HC2 ⊢
  rw [← hE1] at HC1 HC2

  clear h hr hg hn hl hE0 hS1 hE1 hR0 hX hx hy od os
  unfold KA.enc at hE ⊢
  obtain ⟨wh, bl, pg, vd, vs, x, y⟩ := X
  simp only at k0 k1 k2 k3 k4 HC1 HC2 hE w0 w1 w2 ⊢
  go_enter Try.func14, Try.ntmps14
  go_upto_region 1 with fail
  rw [← hE]
  clear hE
  go_upto_region 7 with ((go_at_call 35; with_reducible refine HC1.out.mono ?_); rintro e w3 ⟨vf1, vp1, ve1, pb1, rfl, hr3, hb3⟩; obtain ⟨R3, hR3⟩ : ∃ R3, R3 = rdv S1 vf1 vp1 ve1 pb1 := ⟨_, rfl⟩; rw [← hR3]; have HR3 := Lib.hid (hR3 ▸ R35.rd hr3); have HRD3 := Lib.hid (And.intro hr3 hR3); have V1 := HR3.out.store (heap_alloc_new w3 (.cells #[.int .i64 0, .int .i64 0, .int .i64 0, .int .i64 0, .slice none 0 0, .slice none 0 0, .slice none 0 0, .int .i64 0, .int .i64 0, .int .i64 0, .bool false] 35)) rfl; have HB3 := Lib.hid hb3; clear hr3 hb3 hR3)
  have hz3 : w.heap.size + 1 + 1 < w3.heap.size := Nat.lt_of_lt_of_le HA0.out.size HB3.out.size
  obtain ⟨W4, hW4⟩ : ∃ W4, W4 = (w3.alloc (.cells #[.int .i64 0, .int .i64 0, .int .i64 0, .int .i64 0, .slice none 0 0, .slice none 0 0, .slice none 0 0, .int .i64 0, .int .i64 0, .int .i64 0, .bool false] 35)).setRow w3.heap.size R3 := ⟨_, rfl⟩
  have hr4 : W4.heap[w3.heap.size]? = some (.cells R3 35 (0, 0)) := by rw [hW4]; exact setRow_at (heap_alloc_new w3 _)
  have hb4 : Below w3.heap.size w3 W4.drew := by rw [hW4]; exact (setRow_below (balloc w3 _) (Nat.le_refl _)).drew
  rw [← hW4]
  clear hW4 V1 k0 k1 k2 k3 k4 hld HC1
  obtain ⟨Y, hY⟩ : ∃ Y, Y = w3.heap.size := ⟨_, rfl⟩
  have hYl : Y < W4.heap.size := by rw [hY]; exact (Array.getElem?_eq_some_iff.1 hr4).1
  have HA4 := Lib.hid ((HA0.out.below HB3.out).below hb4)
  have HB4 := Lib.hid (HBE.out.trans ((HB3.out.trans (hb4.mono HB3.out.size)).mono HBE.out.size))
  obtain ⟨hr3, hR3⟩ := HRD3.out
  have HRD4 := Lib.hid (And.intro (hr3.below hb4) hR3)
  rw [← hY] at hr4 ⊢
  have l4 := HR3.out.load (W := W4.drew) hr4
  obtain ⟨k0, k1, k2, k3, k4⟩ := HA4.out.at
  simp only at k0 k1 k2 k3 k4
  have HC3 := Lib.hid (HC2.out W4.drew HB4.out)
  have HH4 := Lib.hid (HH.out.below HB4.out)
  have HR4 := Lib.hid (show W4.drew.heap[Y]? = some (.cells R3 35 (0, 0)) from hr4)
  have HZ := Lib.hid (show w.heap.size + 1 + 1 < Y by omega)
  clear hr4 hb4 hY hz3 hr3 hR3 HA0 HC2 HRD3
  have HSS := Lib.hid (fun (W : World) (hA : AC w R0 ⟨wh, bl, pg, vd, vs, x, y⟩ W) (hY : W.heap[Y]? = some (.cells R3 35 (0, 0))) => (show W.cell? ⟨w.heap.size + 1, 1, none⟩ = some (.int .i64 bl) ∧ W.cell? ⟨w.heap.size + 1, 2, none⟩ = some (.int .i64 pg) ∧ W.cell? ⟨w.heap.size + 1, 3, none⟩ = some vd ∧ W.cell? ⟨w.heap.size + 1, 4, none⟩ = some vs ∧ (loadX ⟨Y, 0, none⟩).run Try.prog W = .ok (.agg R3) W from ⟨hA.at.2.1, hA.at.2.2.1, hA.at.2.2.2.1, hA.at.2.2.2.2, HR3.out.load hY⟩))
  have S4 := HSS.out W4.drew HA4.out.ac HR4.out
  clear k0 k1 k2 k3 k4 l4
  go_region_held3 (fun W => W.cell? ⟨w.heap.size + 1, 1, none⟩ = some (.int .i64 bl) ∧ W.cell? ⟨w.heap.size + 1, 2, none⟩ = some (.int .i64 pg) ∧ W.cell? ⟨w.heap.size + 1, 3, none⟩ = some vd ∧ W.cell? ⟨w.heap.size + 1, 4, none⟩ = some vs ∧ (loadX ⟨Y, 0, none⟩).run Try.prog W = .ok (.agg R3) W) (first | assumption)
    (first
    | ((go_at_call 23; with_reducible refine HC3.out.mono ?_); rintro e W5 ⟨rfl, hst⟩; obtain ⟨V5, hv5, hc5, hf5⟩ := id hst; have o5 : ∀ (k : Nat) (cs : Array Value) (t : TypeId), W4.drew.heap[k]? = some (.cells cs t (0, 0)) → t ≠ 64 → t ≠ 94 → t ≠ 91 → W5.heap[k]? = some (.cells cs t (0, 0)) := fun k cs t hk n1 n2 n3 => (hc5.block k (Array.getElem?_eq_some_iff.1 hk).1 (HH4.out.off_ty hk n1 n2 n3)).trans hk; have hr5 := o5 _ _ _ HR4.out (by decide) (by decide) (by decide); have ha5 : AB w R0 ⟨wh, bl, pg, vd, vs, x, y⟩ W5 := ⟨Nat.lt_of_lt_of_le HA4.out.size hc5.size, o5 _ _ _ HA4.out.b4 (by decide) (by decide) (by decide), o5 _ _ _ HA4.out.b5 (by decide) (by decide) (by decide), o5 _ _ _ HA4.out.b6 (by decide) (by decide) (by decide)⟩; have S5 := HSS.out W5 ha5.ac hr5; have S6 := HSS.out (W5.setRow (w.heap.size + 1 + 1) R3) (ha5.put R3) ((setRow_other W5 _ _ _ (by have := HZ.out; omega)).trans hr5); have V6 := HR3.out.store ha5.b6 rfl; have H65 := Lib.hid ha5.b6; have HK5 := Lib.hid (Chg.kt HH4.out hc5); have HST := Lib.hid hst; clear hst hv5 hc5 hf5 o5 hr5 ha5)
    | ((go_at_call 13; with_reducible refine (num_any _ _).mono ?_); rintro e w' ⟨rfl, rfl⟩))
  clear S4 HSS
  obtain ⟨R3', hR3'⟩ : ∃ R3', R3' = R3 := ⟨_, rfl⟩
  have HBF := Lib.hid HB4.out
  have HFIN : Hid (ActPost w base b g m V fs s S1 (.returned (.tuple #[.agg R3, .bool true])) (W5.setRow (w.heap.size + 1 + 1) R3)) := Lib.hid (by
    obtain ⟨hr3, hR3⟩ := HRD4.out
    refine ⟨vf1, vp1, ve1, pb1, by rw [hR3], (hr3.kt HK5.out).kt (setRow_kt H65.out), (HST.out.of_below HB4.out).setRow H65.out (by omega)⟩)
  go_wp2
  (try simp only [Exit.inBlock, Exit.then])
  refine bodyPost_ret (v := .tuple #[.agg R3, .bool true]) ?_ rfl HFIN.out
  exact results_row1 (a := 6) (b := 7) (ty := 35) rfl _ _ (w.heap.size + 1 + 1) 35 R3 (0, 0) _ rfl (setRow_at H65.out) Try.underlying35 rfl HR3.out.size
theorem act_pr3 {w : World} {base b g m : Nat} {V : Nat → Value} {fs : List Int} {s : Dev} {vf vp ve : Value} {pb : Int} (h : Dv w base b g m V s) (hg : Gd s) (hr : Rd w fs s vf vp ve pb) (hn : s.n ≤ 1000000000) (hl : fs.length ≤ 1000) (X : KA) (w0 : (X.wh == 0) = false) (w1 : (X.wh == 1) = false) (w2 : (X.wh == 2) = false) (w3 : (X.wh == 3) = true) (hX : X.ok w) (hx : X.x.length ≤ 100000) (hy : X.y.length ≤ 100000) (od : Off (· = b) X.vd X.x) (os : Off (· = b) X.vs X.y) :
    Calls Try.prog 14 #[.pointer (some ⟨b, 0, none⟩), .agg (rdv s vf vp ve pb), .agg X.enc.toArray] w (ActPost w base b g m V fs s (s.prS X.bl X.pg X.x X.y)) := by
  have HR0 := Lib.hid (R35.rd hr)
  have HA0 := Lib.hid (AB.start w (rdv s vf vp ve pb) X)
  obtain ⟨R0, hR0⟩ : ∃ R0, R0 = rdv s vf vp ve pb := ⟨_, rfl⟩
  have hE0 := (three_new w (.cells (rdv s vf vp ve pb) 35) (.cells X.enc.toArray 43) (.cells #[.int .i64 0, .int .i64 0, .int .i64 0, .int .i64 0, .slice none 0 0, .slice none 0 0, .slice none 0 0, .int .i64 0, .int .i64 0, .int .i64 0, .bool false] 35)).2.2.2
  rw [← hR0] at HR0 HA0 hE0 ⊢
  obtain ⟨E, hE⟩ : ∃ E, E = ((w.alloc (.cells R0 35)).alloc (.cells X.enc.toArray 43)).alloc (.cells #[.int .i64 0, .int .i64 0, .int .i64 0, .int .i64 0, .slice none 0 0, .slice none 0 0, .slice none 0 0, .int .i64 0, .int .i64 0, .int .i64 0, .bool false] 35) := ⟨_, rfl⟩
  rw [← hE] at HA0 hE0
  have HC1 := Lib.hid (rProgram_any (hr.below hE0) hg hn hl X.bl X.pg (hX.1.below hE0) (hX.2.below hE0) hx hy (Nat.le_trans h.lowle hE0.size))
  have HC2 := Lib.hid (fun W (hb : Below w.heap.size w W) => Program_any (h.below hb) hg hn X.bl X.pg (hX.1.below hb) (hX.2.below hb) od os)
  have HBE := Lib.hid hE0
  have HH := Lib.hid h
  have HRR := Lib.hid hr
  obtain ⟨k0, k1, k2, k3, k4⟩ := HA0.out.at
  have hld := HR0.out.load HA0.out.b4
  rw [← hR0] at HC1
  obtain ⟨S1, hS1⟩ : ∃ S1, S1 = (s.prS X.bl X.pg X.x X.y) := ⟨_, rfl⟩
  obtain ⟨E1, hE1⟩ : ∃ E1, E1 = (s.prE X.bl X.pg X.x X.y) := ⟨_, rfl⟩
  rw [← hS1] at HC1 HC2 ⊢
  rw [← hE1] at HC1 HC2

  clear h hr hg hn hl hE0 hS1 hE1 hR0 hX hx hy od os
  unfold KA.enc at hE ⊢
  obtain ⟨wh, bl, pg, vd, vs, x, y⟩ := X
  simp only at k0 k1 k2 k3 k4 HC1 HC2 hE w0 w1 w2 w3 ⊢
  go_enter Try.func14, Try.ntmps14
  go_upto_region 1 with fail
  rw [← hE]
  clear hE
  go_upto_region 7 with ((go_at_call 35; with_reducible refine HC1.out.mono ?_); rintro e w3 ⟨vf1, vp1, ve1, pb1, rfl, hr3, hb3⟩; obtain ⟨R3, hR3⟩ : ∃ R3, R3 = rdv S1 vf1 vp1 ve1 pb1 := ⟨_, rfl⟩; rw [← hR3]; have HR3 := Lib.hid (hR3 ▸ R35.rd hr3); have HRD3 := Lib.hid (And.intro hr3 hR3); have V1 := HR3.out.store (heap_alloc_new w3 (.cells #[.int .i64 0, .int .i64 0, .int .i64 0, .int .i64 0, .slice none 0 0, .slice none 0 0, .slice none 0 0, .int .i64 0, .int .i64 0, .int .i64 0, .bool false] 35)) rfl; have HB3 := Lib.hid hb3; clear hr3 hb3 hR3)
  have hz3 : w.heap.size + 1 + 1 < w3.heap.size := Nat.lt_of_lt_of_le HA0.out.size HB3.out.size
  obtain ⟨W4, hW4⟩ : ∃ W4, W4 = (w3.alloc (.cells #[.int .i64 0, .int .i64 0, .int .i64 0, .int .i64 0, .slice none 0 0, .slice none 0 0, .slice none 0 0, .int .i64 0, .int .i64 0, .int .i64 0, .bool false] 35)).setRow w3.heap.size R3 := ⟨_, rfl⟩
  have hr4 : W4.heap[w3.heap.size]? = some (.cells R3 35 (0, 0)) := by rw [hW4]; exact setRow_at (heap_alloc_new w3 _)
  have hb4 : Below w3.heap.size w3 W4.drew := by rw [hW4]; exact (setRow_below (balloc w3 _) (Nat.le_refl _)).drew
  rw [← hW4]
  clear hW4 V1 k0 k1 k2 k3 k4 hld HC1
  obtain ⟨Y, hY⟩ : ∃ Y, Y = w3.heap.size := ⟨_, rfl⟩
  have hYl : Y < W4.heap.size := by rw [hY]; exact (Array.getElem?_eq_some_iff.1 hr4).1
  have HA4 := Lib.hid ((HA0.out.below HB3.out).below hb4)
  have HB4 := Lib.hid (HBE.out.trans ((HB3.out.trans (hb4.mono HB3.out.size)).mono HBE.out.size))
  obtain ⟨hr3, hR3⟩ := HRD3.out
  have HRD4 := Lib.hid (And.intro (hr3.below hb4) hR3)
  rw [← hY] at hr4 ⊢
  have l4 := HR3.out.load (W := W4.drew) hr4
  obtain ⟨k0, k1, k2, k3, k4⟩ := HA4.out.at
  simp only at k0 k1 k2 k3 k4
  have HC3 := Lib.hid (HC2.out W4.drew HB4.out)
  have HH4 := Lib.hid (HH.out.below HB4.out)
  have HR4 := Lib.hid (show W4.drew.heap[Y]? = some (.cells R3 35 (0, 0)) from hr4)
  have HZ := Lib.hid (show w.heap.size + 1 + 1 < Y by omega)
  clear hr4 hb4 hY hz3 hr3 hR3 HA0 HC2 HRD3
  have HSS := Lib.hid (fun (W : World) (hA : AC w R0 ⟨wh, bl, pg, vd, vs, x, y⟩ W) (hY : W.heap[Y]? = some (.cells R3 35 (0, 0))) => (show W.cell? ⟨w.heap.size + 1, 1, none⟩ = some (.int .i64 bl) ∧ W.cell? ⟨w.heap.size + 1, 2, none⟩ = some (.int .i64 pg) ∧ W.cell? ⟨w.heap.size + 1, 3, none⟩ = some vd ∧ W.cell? ⟨w.heap.size + 1, 4, none⟩ = some vs ∧ (loadX ⟨Y, 0, none⟩).run Try.prog W = .ok (.agg R3) W from ⟨hA.at.2.1, hA.at.2.2.1, hA.at.2.2.2.1, hA.at.2.2.2.2, HR3.out.load hY⟩))
  have S4 := HSS.out W4.drew HA4.out.ac HR4.out
  clear k0 k1 k2 k3 k4 l4
  go_region_held3 (fun W => W.cell? ⟨w.heap.size + 1, 1, none⟩ = some (.int .i64 bl) ∧ W.cell? ⟨w.heap.size + 1, 2, none⟩ = some (.int .i64 pg) ∧ W.cell? ⟨w.heap.size + 1, 3, none⟩ = some vd ∧ W.cell? ⟨w.heap.size + 1, 4, none⟩ = some vs ∧ (loadX ⟨Y, 0, none⟩).run Try.prog W = .ok (.agg R3) W) (first | assumption)
    (first
    | ((go_at_call 23; with_reducible refine HC3.out.mono ?_); rintro e W5 ⟨rfl, hst⟩; obtain ⟨V5, hv5, hc5, hf5⟩ := id hst; have o5 : ∀ (k : Nat) (cs : Array Value) (t : TypeId), W4.drew.heap[k]? = some (.cells cs t (0, 0)) → t ≠ 64 → t ≠ 94 → t ≠ 91 → W5.heap[k]? = some (.cells cs t (0, 0)) := fun k cs t hk n1 n2 n3 => (hc5.block k (Array.getElem?_eq_some_iff.1 hk).1 (HH4.out.off_ty hk n1 n2 n3)).trans hk; have hr5 := o5 _ _ _ HR4.out (by decide) (by decide) (by decide); have ha5 : AB w R0 ⟨wh, bl, pg, vd, vs, x, y⟩ W5 := ⟨Nat.lt_of_lt_of_le HA4.out.size hc5.size, o5 _ _ _ HA4.out.b4 (by decide) (by decide) (by decide), o5 _ _ _ HA4.out.b5 (by decide) (by decide) (by decide), o5 _ _ _ HA4.out.b6 (by decide) (by decide) (by decide)⟩; have S5 := HSS.out W5 ha5.ac hr5; have S6 := HSS.out (W5.setRow (w.heap.size + 1 + 1) R3) (ha5.put R3) ((setRow_other W5 _ _ _ (by have := HZ.out; omega)).trans hr5); have V6 := HR3.out.store ha5.b6 rfl; have H65 := Lib.hid ha5.b6; have HK5 := Lib.hid (Chg.kt HH4.out hc5); have HST := Lib.hid hst; clear hst hv5 hc5 hf5 o5 hr5 ha5)
    | ((go_at_call 13; with_reducible refine (num_any _ _).mono ?_); rintro e w' ⟨rfl, rfl⟩))
  clear S4 HSS
  obtain ⟨R3', hR3'⟩ : ∃ R3', R3' = R3 := ⟨_, rfl⟩
  have HBF := Lib.hid HB4.out
  have HFIN : Hid (ActPost w base b g m V fs s S1 (.returned (.tuple #[.agg R3, .bool true])) (W5.setRow (w.heap.size + 1 + 1) R3)) := Lib.hid (by
    obtain ⟨hr3, hR3⟩ := HRD4.out
    refine ⟨vf1, vp1, ve1, pb1, by rw [hR3], (hr3.kt HK5.out).kt (setRow_kt H65.out), (HST.out.of_below HB4.out).setRow H65.out (by omega)⟩)
  go_wp2
  (try simp only [Exit.inBlock, Exit.then])
  refine bodyPost_ret (v := .tuple #[.agg R3, .bool true]) ?_ rfl HFIN.out
  exact results_row1 (a := 6) (b := 7) (ty := 35) rfl _ _ (w.heap.size + 1 + 1) 35 R3 (0, 0) _ rfl (setRow_at H65.out) Try.underlying35 rfl HR3.out.size
theorem act_er {w : World} {base b g m : Nat} {V : Nat → Value} {fs : List Int} {s : Dev} {vf vp ve : Value} {pb : Int} (h : Dv w base b g m V s) (hg : Gd s) (hr : Rd w fs s vf vp ve pb) (hn : s.n ≤ 1000000000) (hl : fs.length ≤ 1000) (X : KA) (w0 : (X.wh == 0) = false) (w1 : (X.wh == 1) = false) (w2 : (X.wh == 2) = false) (w3 : (X.wh == 3) = false) (w4 : (X.wh == 4) = true) :
    Calls Try.prog 14 #[.pointer (some ⟨b, 0, none⟩), .agg (rdv s vf vp ve pb), .agg X.enc.toArray] w (ActPost w base b g m V fs s (s.erS X.bl)) := by
  have HR0 := Lib.hid (R35.rd hr)
  have HA0 := Lib.hid (AB.start w (rdv s vf vp ve pb) X)
  obtain ⟨R0, hR0⟩ : ∃ R0, R0 = rdv s vf vp ve pb := ⟨_, rfl⟩
  have hE0 := (three_new w (.cells (rdv s vf vp ve pb) 35) (.cells X.enc.toArray 43) (.cells #[.int .i64 0, .int .i64 0, .int .i64 0, .int .i64 0, .slice none 0 0, .slice none 0 0, .slice none 0 0, .int .i64 0, .int .i64 0, .int .i64 0, .bool false] 35)).2.2.2
  rw [← hR0] at HR0 HA0 hE0 ⊢
  obtain ⟨E, hE⟩ : ∃ E, E = ((w.alloc (.cells R0 35)).alloc (.cells X.enc.toArray 43)).alloc (.cells #[.int .i64 0, .int .i64 0, .int .i64 0, .int .i64 0, .slice none 0 0, .slice none 0 0, .slice none 0 0, .int .i64 0, .int .i64 0, .int .i64 0, .bool false] 35) := ⟨_, rfl⟩
  rw [← hE] at HA0 hE0
  have HC1 := Lib.hid (rErase_any (hr.below hE0) hg hn hl X.bl)
  have HC2 := Lib.hid (fun W (hb : Below w.heap.size w W) => Erase_any (h.below hb) hg hn X.bl)
  have HBE := Lib.hid hE0
  have HH := Lib.hid h
  have HRR := Lib.hid hr
  obtain ⟨k0, k1, k2, k3, k4⟩ := HA0.out.at
  have hld := HR0.out.load HA0.out.b4
  rw [← hR0] at HC1
  obtain ⟨S1, hS1⟩ : ∃ S1, S1 = (s.erS X.bl) := ⟨_, rfl⟩
  obtain ⟨E1, hE1⟩ : ∃ E1, E1 = (s.erE X.bl) := ⟨_, rfl⟩
  rw [← hS1] at HC1 HC2 ⊢
  rw [← hE1] at HC1 HC2

  clear h hr hg hn hl hE0 hS1 hE1 hR0
  unfold KA.enc at hE ⊢
  obtain ⟨wh, bl, pg, vd, vs, x, y⟩ := X
  simp only at k0 k1 k2 k3 k4 HC1 HC2 hE w0 w1 w2 w3 w4 ⊢
  go_enter Try.func14, Try.ntmps14
  go_upto_region 1 with fail
  rw [← hE]
  clear hE
  go_upto_region 10 with ((go_at_call 36; with_reducible refine HC1.out.mono ?_); rintro e w3 ⟨vf1, vp1, ve1, pb1, rfl, hr3, hb3⟩; obtain ⟨R3, hR3⟩ : ∃ R3, R3 = rdv S1 vf1 vp1 ve1 pb1 := ⟨_, rfl⟩; rw [← hR3]; have HR3 := Lib.hid (hR3 ▸ R35.rd hr3); have HRD3 := Lib.hid (And.intro hr3 hR3); have V1 := HR3.out.store (heap_alloc_new w3 (.cells #[.int .i64 0, .int .i64 0, .int .i64 0, .int .i64 0, .slice none 0 0, .slice none 0 0, .slice none 0 0, .int .i64 0, .int .i64 0, .int .i64 0, .bool false] 35)) rfl; have HB3 := Lib.hid hb3; clear hr3 hb3 hR3)
  have hz3 : w.heap.size + 1 + 1 < w3.heap.size := Nat.lt_of_lt_of_le HA0.out.size HB3.out.size
  obtain ⟨W4, hW4⟩ : ∃ W4, W4 = (w3.alloc (.cells #[.int .i64 0, .int .i64 0, .int .i64 0, .int .i64 0, .slice none 0 0, .slice none 0 0, .slice none 0 0, .int .i64 0, .int .i64 0, .int .i64 0, .bool false] 35)).setRow w3.heap.size R3 := ⟨_, rfl⟩
  have hr4 : W4.heap[w3.heap.size]? = some (.cells R3 35 (0, 0)) := by rw [hW4]; exact setRow_at (heap_alloc_new w3 _)
  have hb4 : Below w3.heap.size w3 W4.drew := by rw [hW4]; exact (setRow_below (balloc w3 _) (Nat.le_refl _)).drew
  rw [← hW4]
  clear hW4 V1 k0 k1 k2 k3 k4 hld HC1
  obtain ⟨Y, hY⟩ : ∃ Y, Y = w3.heap.size := ⟨_, rfl⟩
  have hYl : Y < W4.heap.size := by rw [hY]; exact (Array.getElem?_eq_some_iff.1 hr4).1
  have HA4 := Lib.hid ((HA0.out.below HB3.out).below hb4)
  have HB4 := Lib.hid (HBE.out.trans ((HB3.out.trans (hb4.mono HB3.out.size)).mono HBE.out.size))
  obtain ⟨hr3, hR3⟩ := HRD3.out
  have HRD4 := Lib.hid (And.intro (hr3.below hb4) hR3)
  rw [← hY] at hr4 ⊢
  have l4 := HR3.out.load (W := W4.drew) hr4
  obtain ⟨k0, k1, k2, k3, k4⟩ := HA4.out.at
  simp only at k0 k1 k2 k3 k4
  have HC3 := Lib.hid (HC2.out W4.drew HB4.out)
  have HH4 := Lib.hid (HH.out.below HB4.out)
  have HR4 := Lib.hid (show W4.drew.heap[Y]? = some (.cells R3 35 (0, 0)) from hr4)
  have HZ := Lib.hid (show w.heap.size + 1 + 1 < Y by omega)
  clear hr4 hb4 hY hz3 hr3 hR3 HA0 HC2 HRD3
  have HSS := Lib.hid (fun (W : World) (hA : AC w R0 ⟨wh, bl, pg, vd, vs, x, y⟩ W) (hY : W.heap[Y]? = some (.cells R3 35 (0, 0))) => (show W.cell? ⟨w.heap.size + 1, 1, none⟩ = some (.int .i64 bl) ∧ W.cell? ⟨w.heap.size + 1, 2, none⟩ = some (.int .i64 pg) ∧ W.cell? ⟨w.heap.size + 1, 3, none⟩ = some vd ∧ W.cell? ⟨w.heap.size + 1, 4, none⟩ = some vs ∧ (loadX ⟨Y, 0, none⟩).run Try.prog W = .ok (.agg R3) W from ⟨hA.at.2.1, hA.at.2.2.1, hA.at.2.2.2.1, hA.at.2.2.2.2, HR3.out.load hY⟩))
  have S4 := HSS.out W4.drew HA4.out.ac HR4.out
  clear k0 k1 k2 k3 k4 l4
  go_region_held3 (fun W => W.cell? ⟨w.heap.size + 1, 1, none⟩ = some (.int .i64 bl) ∧ W.cell? ⟨w.heap.size + 1, 2, none⟩ = some (.int .i64 pg) ∧ W.cell? ⟨w.heap.size + 1, 3, none⟩ = some vd ∧ W.cell? ⟨w.heap.size + 1, 4, none⟩ = some vs ∧ (loadX ⟨Y, 0, none⟩).run Try.prog W = .ok (.agg R3) W) (first | assumption)
    (first
    | ((go_at_call 22; with_reducible refine HC3.out.mono ?_); rintro e W5 ⟨rfl, hst⟩; obtain ⟨V5, hv5, hc5, hf5⟩ := id hst; have o5 : ∀ (k : Nat) (cs : Array Value) (t : TypeId), W4.drew.heap[k]? = some (.cells cs t (0, 0)) → t ≠ 64 → t ≠ 94 → t ≠ 91 → W5.heap[k]? = some (.cells cs t (0, 0)) := fun k cs t hk n1 n2 n3 => (hc5.block k (Array.getElem?_eq_some_iff.1 hk).1 (HH4.out.off_ty hk n1 n2 n3)).trans hk; have hr5 := o5 _ _ _ HR4.out (by decide) (by decide) (by decide); have ha5 : AB w R0 ⟨wh, bl, pg, vd, vs, x, y⟩ W5 := ⟨Nat.lt_of_lt_of_le HA4.out.size hc5.size, o5 _ _ _ HA4.out.b4 (by decide) (by decide) (by decide), o5 _ _ _ HA4.out.b5 (by decide) (by decide) (by decide), o5 _ _ _ HA4.out.b6 (by decide) (by decide) (by decide)⟩; have S5 := HSS.out W5 ha5.ac hr5; have S6 := HSS.out (W5.setRow (w.heap.size + 1 + 1) R3) (ha5.put R3) ((setRow_other W5 _ _ _ (by have := HZ.out; omega)).trans hr5); have V6 := HR3.out.store ha5.b6 rfl; have H65 := Lib.hid ha5.b6; have HK5 := Lib.hid (Chg.kt HH4.out hc5); have HST := Lib.hid hst; clear hst hv5 hc5 hf5 o5 hr5 ha5)
    | ((go_at_call 13; with_reducible refine (num_any _ _).mono ?_); rintro e w' ⟨rfl, rfl⟩))
  clear S4 HSS
  obtain ⟨R3', hR3'⟩ : ∃ R3', R3' = R3 := ⟨_, rfl⟩
  have HBF := Lib.hid HB4.out
  have HFIN : Hid (ActPost w base b g m V fs s S1 (.returned (.tuple #[.agg R3, .bool true])) (W5.setRow (w.heap.size + 1 + 1) R3)) := Lib.hid (by
    obtain ⟨hr3, hR3⟩ := HRD4.out
    refine ⟨vf1, vp1, ve1, pb1, by rw [hR3], (hr3.kt HK5.out).kt (setRow_kt H65.out), (HST.out.of_below HB4.out).setRow H65.out (by omega)⟩)
  go_wp2
  (try simp only [Exit.inBlock, Exit.then])
  refine bodyPost_ret (v := .tuple #[.agg R3, .bool true]) ?_ rfl HFIN.out
  exact results_row1 (a := 6) (b := 7) (ty := 35) rfl _ _ (w.heap.size + 1 + 1) 35 R3 (0, 0) _ rfl (setRow_at H65.out) Try.underlying35 rfl HR3.out.size
theorem HeadPost.step {w w' : World} {base b g m : Nat} {V : Nat → Value} {s s' : Dev} {k : Int} {e : Ending} (h : HeadPost w base b g m V s' k e w') (hn : s'.nb = s.nb) : ExPost w base b g m V s s' k e w' :=
  ⟨h.1, V, h.2.1, h.2.2.mono (fun i hi => .inl hi), fun i hi => .inl (by
    rcases hi with h1 | h1 | h1 | ⟨j, hj, h1⟩
    · exact .inl h1
    · exact .inr (.inl h1)
    · exact .inr (.inr (.inl h1))
    · exact .inr (.inr (.inr ⟨j, by omega, h1⟩)))⟩
theorem cuS_nb (s : Dev) (o n : Int) : (s.cuS o n).nb = s.nb := by
  unfold Dev.cuS
  split <;> rfl
theorem act_cu {w : World} {base b g m : Nat} {V : Nat → Value} {fs : List Int} {s : Dev} {vf vp ve : Value} {pb : Int} (h : Dv w base b g m V s) (hg : Gd s) (hr : Rd w fs s vf vp ve pb) (hn : s.n ≤ 1000000000) (hl : fs.length ≤ 1000) (X : KA) (w0 : (X.wh == 0) = false) (w1 : (X.wh == 1) = false) (w2 : (X.wh == 2) = false) (w3 : (X.wh == 3) = false) (w4 : (X.wh == 4) = false) (w5 : (X.wh == 5) = false) (w6 : (X.wh == 6) = true) :
    Calls Try.prog 14 #[.pointer (some ⟨b, 0, none⟩), .agg (rdv s vf vp ve pb), .agg X.enc.toArray] w (ActPost w base b g m V fs s (s.cuS X.bl X.pg)) := by
  have HR0 := Lib.hid (R35.rd hr)
  have HA0 := Lib.hid (AB.start w (rdv s vf vp ve pb) X)
  obtain ⟨R0, hR0⟩ : ∃ R0, R0 = rdv s vf vp ve pb := ⟨_, rfl⟩
  have hE0 := (three_new w (.cells (rdv s vf vp ve pb) 35) (.cells X.enc.toArray 43) (.cells #[.int .i64 0, .int .i64 0, .int .i64 0, .int .i64 0, .slice none 0 0, .slice none 0 0, .slice none 0 0, .int .i64 0, .int .i64 0, .int .i64 0, .bool false] 35)).2.2.2
  rw [← hR0] at HR0 HA0 hE0 ⊢
  obtain ⟨E, hE⟩ : ∃ E, E = ((w.alloc (.cells R0 35)).alloc (.cells X.enc.toArray 43)).alloc (.cells #[.int .i64 0, .int .i64 0, .int .i64 0, .int .i64 0, .slice none 0 0, .slice none 0 0, .slice none 0 0, .int .i64 0, .int .i64 0, .int .i64 0, .bool false] 35) := ⟨_, rfl⟩
  rw [← hE] at HA0 hE0
  have HC1 := Lib.hid (rPend_any (hr.below hE0) hg X.bl X.pg)
  have HC2 := Lib.hid (fun W (hb : Below w.heap.size w W) => (Cut_any (h.below hb) hg X.bl X.pg).mono fun _ _ hp => HeadPost.step hp (cuS_nb s _ _))
  have HBE := Lib.hid hE0
  have HH := Lib.hid h
  have HRR := Lib.hid hr
  obtain ⟨k0, k1, k2, k3, k4⟩ := HA0.out.at
  have hld := HR0.out.load HA0.out.b4
  rw [← hR0] at HC1
  obtain ⟨S1, hS1⟩ : ∃ S1, S1 = (s.cuS X.bl X.pg) := ⟨_, rfl⟩
  obtain ⟨E1, hE1⟩ : ∃ E1, E1 = (s.cuE X.bl X.pg) := ⟨_, rfl⟩
  rw [← hS1] at HC1 HC2 ⊢
  rw [← hE1] at HC1 HC2

  clear h hr hg hn hl hE0 hS1 hE1 hR0
  unfold KA.enc at hE ⊢
  obtain ⟨wh, bl, pg, vd, vs, x, y⟩ := X
  simp only at k0 k1 k2 k3 k4 HC1 HC2 hE w0 w1 w2 w3 w4 w5 w6 ⊢
  go_enter Try.func14, Try.ntmps14
  go_upto_region 1 with fail
  rw [← hE]
  clear hE
  go_upto_region 17 with ((go_at_call 38; with_reducible refine HC1.out.mono ?_); rintro e w3 ⟨vf1, vp1, ve1, pb1, rfl, hr3, hb3⟩; obtain ⟨R3, hR3⟩ : ∃ R3, R3 = rdv S1 vf1 vp1 ve1 pb1 := ⟨_, rfl⟩; rw [← hR3]; have HR3 := Lib.hid (hR3 ▸ R35.rd hr3); have HRD3 := Lib.hid (And.intro hr3 hR3); have V1 := HR3.out.store (heap_alloc_new w3 (.cells #[.int .i64 0, .int .i64 0, .int .i64 0, .int .i64 0, .slice none 0 0, .slice none 0 0, .slice none 0 0, .int .i64 0, .int .i64 0, .int .i64 0, .bool false] 35)) rfl; have HB3 := Lib.hid hb3; clear hr3 hb3 hR3)
  have hz3 : w.heap.size + 1 + 1 < w3.heap.size := Nat.lt_of_lt_of_le HA0.out.size HB3.out.size
  obtain ⟨W4, hW4⟩ : ∃ W4, W4 = (w3.alloc (.cells #[.int .i64 0, .int .i64 0, .int .i64 0, .int .i64 0, .slice none 0 0, .slice none 0 0, .slice none 0 0, .int .i64 0, .int .i64 0, .int .i64 0, .bool false] 35)).setRow w3.heap.size R3 := ⟨_, rfl⟩
  have hr4 : W4.heap[w3.heap.size]? = some (.cells R3 35 (0, 0)) := by rw [hW4]; exact setRow_at (heap_alloc_new w3 _)
  have hb4 : Below w3.heap.size w3 W4.drew := by rw [hW4]; exact (setRow_below (balloc w3 _) (Nat.le_refl _)).drew
  rw [← hW4]
  clear hW4 V1 k0 k1 k2 k3 k4 hld HC1
  obtain ⟨Y, hY⟩ : ∃ Y, Y = w3.heap.size := ⟨_, rfl⟩
  have hYl : Y < W4.heap.size := by rw [hY]; exact (Array.getElem?_eq_some_iff.1 hr4).1
  have HA4 := Lib.hid ((HA0.out.below HB3.out).below hb4)
  have HB4 := Lib.hid (HBE.out.trans ((HB3.out.trans (hb4.mono HB3.out.size)).mono HBE.out.size))
  obtain ⟨hr3, hR3⟩ := HRD3.out
  have HRD4 := Lib.hid (And.intro (hr3.below hb4) hR3)
  rw [← hY] at hr4 ⊢
  have l4 := HR3.out.load (W := W4.drew) hr4
  obtain ⟨k0, k1, k2, k3, k4⟩ := HA4.out.at
  simp only at k0 k1 k2 k3 k4
  have HC3 := Lib.hid (HC2.out W4.drew HB4.out)
  have HH4 := Lib.hid (HH.out.below HB4.out)
  have HR4 := Lib.hid (show W4.drew.heap[Y]? = some (.cells R3 35 (0, 0)) from hr4)
  have HZ := Lib.hid (show w.heap.size + 1 + 1 < Y by omega)
  clear hr4 hb4 hY hz3 hr3 hR3 HA0 HC2 HRD3
  have HSS := Lib.hid (fun (W : World) (hA : AC w R0 ⟨wh, bl, pg, vd, vs, x, y⟩ W) (hY : W.heap[Y]? = some (.cells R3 35 (0, 0))) => (show W.cell? ⟨w.heap.size + 1, 1, none⟩ = some (.int .i64 bl) ∧ W.cell? ⟨w.heap.size + 1, 2, none⟩ = some (.int .i64 pg) ∧ W.cell? ⟨w.heap.size + 1, 3, none⟩ = some vd ∧ W.cell? ⟨w.heap.size + 1, 4, none⟩ = some vs ∧ (loadX ⟨Y, 0, none⟩).run Try.prog W = .ok (.agg R3) W from ⟨hA.at.2.1, hA.at.2.2.1, hA.at.2.2.2.1, hA.at.2.2.2.2, HR3.out.load hY⟩))
  have S4 := HSS.out W4.drew HA4.out.ac HR4.out
  clear k0 k1 k2 k3 k4 l4
  go_region_held3 (fun W => W.cell? ⟨w.heap.size + 1, 1, none⟩ = some (.int .i64 bl) ∧ W.cell? ⟨w.heap.size + 1, 2, none⟩ = some (.int .i64 pg) ∧ W.cell? ⟨w.heap.size + 1, 3, none⟩ = some vd ∧ W.cell? ⟨w.heap.size + 1, 4, none⟩ = some vs ∧ (loadX ⟨Y, 0, none⟩).run Try.prog W = .ok (.agg R3) W) (first | assumption)
    (first
    | ((go_at_call 24; with_reducible refine HC3.out.mono ?_); rintro e W5 ⟨rfl, hst⟩; obtain ⟨V5, hv5, hc5, hf5⟩ := id hst; have o5 : ∀ (k : Nat) (cs : Array Value) (t : TypeId), W4.drew.heap[k]? = some (.cells cs t (0, 0)) → t ≠ 64 → t ≠ 94 → t ≠ 91 → W5.heap[k]? = some (.cells cs t (0, 0)) := fun k cs t hk n1 n2 n3 => (hc5.block k (Array.getElem?_eq_some_iff.1 hk).1 (HH4.out.off_ty hk n1 n2 n3)).trans hk; have hr5 := o5 _ _ _ HR4.out (by decide) (by decide) (by decide); have ha5 : AB w R0 ⟨wh, bl, pg, vd, vs, x, y⟩ W5 := ⟨Nat.lt_of_lt_of_le HA4.out.size hc5.size, o5 _ _ _ HA4.out.b4 (by decide) (by decide) (by decide), o5 _ _ _ HA4.out.b5 (by decide) (by decide) (by decide), o5 _ _ _ HA4.out.b6 (by decide) (by decide) (by decide)⟩; have S5 := HSS.out W5 ha5.ac hr5; have S6 := HSS.out (W5.setRow (w.heap.size + 1 + 1) R3) (ha5.put R3) ((setRow_other W5 _ _ _ (by have := HZ.out; omega)).trans hr5); have V6 := HR3.out.store ha5.b6 rfl; have H65 := Lib.hid ha5.b6; have HK5 := Lib.hid (Chg.kt HH4.out hc5); have HST := Lib.hid hst; clear hst hv5 hc5 hf5 o5 hr5 ha5)
    | ((go_at_call 13; with_reducible refine (num_any _ _).mono ?_); rintro e w' ⟨rfl, rfl⟩))
  clear S4 HSS
  obtain ⟨R3', hR3'⟩ : ∃ R3', R3' = R3 := ⟨_, rfl⟩
  have HBF := Lib.hid HB4.out
  have HFIN : Hid (ActPost w base b g m V fs s S1 (.returned (.tuple #[.agg R3, .bool true])) (W5.setRow (w.heap.size + 1 + 1) R3)) := Lib.hid (by
    obtain ⟨hr3, hR3⟩ := HRD4.out
    refine ⟨vf1, vp1, ve1, pb1, by rw [hR3], (hr3.kt HK5.out).kt (setRow_kt H65.out), (HST.out.of_below HB4.out).setRow H65.out (by omega)⟩)
  go_wp2
  (try simp only [Exit.inBlock, Exit.then])
  refine bodyPost_ret (v := .tuple #[.agg R3, .bool true]) ?_ rfl HFIN.out
  exact results_row1 (a := 6) (b := 7) (ty := 35) rfl _ _ (w.heap.size + 1 + 1) 35 R3 (0, 0) _ rfl (setRow_at H65.out) Try.underlying35 rfl HR3.out.size
theorem act_rs {w : World} {base b g m : Nat} {V : Nat → Value} {fs : List Int} {s : Dev} {vf vp ve : Value} {pb : Int} (h : Dv w base b g m V s) (hg : Gd s) (hr : Rd w fs s vf vp ve pb) (X : KA) (w0 : (X.wh == 0) = false) (w1 : (X.wh == 1) = false) (w2 : (X.wh == 2) = false) (w3 : (X.wh == 3) = false) (w4 : (X.wh == 4) = false) (w5 : (X.wh == 5) = false) (w6 : (X.wh == 6) = false) :
    Calls Try.prog 14 #[.pointer (some ⟨b, 0, none⟩), .agg (rdv s vf vp ve pb), .agg X.enc.toArray] w (ActPost w base b g m V fs s (s.ctl (-1) 0 s.n false)) := by
  have HR0 := Lib.hid (R35.rd hr)
  have HA0 := Lib.hid (AB.start w (rdv s vf vp ve pb) X)
  obtain ⟨R0, hR0⟩ : ∃ R0, R0 = rdv s vf vp ve pb := ⟨_, rfl⟩
  have hE0 := (three_new w (.cells (rdv s vf vp ve pb) 35) (.cells X.enc.toArray 43) (.cells #[.int .i64 0, .int .i64 0, .int .i64 0, .int .i64 0, .slice none 0 0, .slice none 0 0, .slice none 0 0, .int .i64 0, .int .i64 0, .int .i64 0, .bool false] 35)).2.2.2
  rw [← hR0] at HR0 HA0 hE0 ⊢
  obtain ⟨E, hE⟩ : ∃ E, E = ((w.alloc (.cells R0 35)).alloc (.cells X.enc.toArray 43)).alloc (.cells #[.int .i64 0, .int .i64 0, .int .i64 0, .int .i64 0, .slice none 0 0, .slice none 0 0, .slice none 0 0, .int .i64 0, .int .i64 0, .int .i64 0, .bool false] 35) := ⟨_, rfl⟩
  rw [← hE] at HA0 hE0
  have HC1 := Lib.hid (rRestart_any (hr.below hE0))
  have HC2 := Lib.hid (fun W (hb : Below w.heap.size w W) => (Restart_any (h.below hb)).mono fun _ _ hp => HeadPost.step (s := s) hp rfl)
  have HBE := Lib.hid hE0
  have HH := Lib.hid h
  have HRR := Lib.hid hr
  obtain ⟨k0, k1, k2, k3, k4⟩ := HA0.out.at
  have hld := HR0.out.load HA0.out.b4
  rw [← hR0] at HC1
  have HREQ := Lib.hid hR0
  obtain ⟨S1, hS1⟩ : ∃ S1, S1 = s.ctl (-1) 0 s.n false := ⟨_, rfl⟩
  rw [← hS1] at HC1 HC2 ⊢
  clear h hr hg hE0 hS1 hR0
  unfold KA.enc at hE ⊢
  obtain ⟨wh, bl, pg, vd, vs, x, y⟩ := X
  simp only at k0 k1 k2 k3 k4 HC1 HC2 hE w0 w1 w2 w3 w4 w5 w6 ⊢
  go_enter Try.func14, Try.ntmps14
  go_upto_region 1 with fail
  rw [← hE]
  clear hE
  go_wp2_with (first
    | ((go_at_call 39; with_reducible refine HC1.out.mono ?_); rintro e w3 ⟨vf1, vp1, ve1, pb1, rfl, hr3, hb3⟩; obtain ⟨R3, hR3⟩ : ∃ R3, R3 = rdv S1 vf1 vp1 ve1 pb1 := ⟨_, rfl⟩; rw [← hR3]; have HR3 := Lib.hid (hR3 ▸ R35.rd hr3); have HRD3 := Lib.hid (And.intro hr3 hR3); have HB3 := Lib.hid (HBE.out.trans (hb3.mono HBE.out.size)); have HA3 := Lib.hid (HA0.out.below hb3); have HH3 := Lib.hid (HH.out.below HB3.out); clear hr3 hb3 hR3)
    | ((go_at_call 21; with_reducible refine (HC2.out _ HB3.out).mono ?_); rintro e W5 ⟨rfl, hst⟩; obtain ⟨V5, hv5, hc5, hf5⟩ := id hst; have H65 := Lib.hid ((hc5.block _ (Array.getElem?_eq_some_iff.1 HA3.out.b6).1 (HH3.out.off_ty HA3.out.b6 (by decide) (by decide) (by decide))).trans HA3.out.b6); have V6 := HR3.out.store H65.out rfl; have HK5 := Lib.hid (Chg.kt HH3.out hc5); have HST := Lib.hid hst; clear hst hv5 hc5 hf5)
    | ((go_at_call 13; with_reducible refine (num_any _ _).mono ?_); rintro e w' ⟨rfl, rfl⟩))
  (try simp only [Exit.inBlock, Exit.then])
  have HFIN : Hid (ActPost w base b g m V fs s S1 (.returned (.tuple #[.agg R3, .bool true])) (W5.setRow (w.heap.size + 1 + 1) R3)) := Lib.hid (by
    obtain ⟨hr3, hR3⟩ := HRD3.out
    refine ⟨vf1, vp1, ve1, pb1, by rw [hR3], (hr3.kt HK5.out).kt (setRow_kt H65.out), (HST.out.of_below HB3.out).setRow H65.out (by omega)⟩)
  refine bodyPost_ret (v := .tuple #[.agg R3, .bool true]) ?_ rfl HFIN.out
  exact results_row1 (a := 6) (b := 7) (ty := 35) rfl _ _ (w.heap.size + 1 + 1) 35 R3 (0, 0) _ rfl (setRow_at H65.out) Try.underlying35 rfl HR3.out.size
theorem act_rd {w : World} {base b g m : Nat} {V : Nat → Value} {fs : List Int} {s : Dev} {vf vp ve : Value} {pb : Int} (h : Dv w base b g m V s) (hg : Gd s) (hr : Rd w fs s vf vp ve pb) (X : KA) (w0 : (X.wh == 0) = false) (w1 : (X.wh == 1) = false) (w2 : (X.wh == 2) = false) (w3 : (X.wh == 3) = false) (w4 : (X.wh == 4) = false) (w5 : (X.wh == 5) = true) :
    Calls Try.prog 14 #[.pointer (some ⟨b, 0, none⟩), .agg (rdv s vf vp ve pb), .agg X.enc.toArray] w (ActPost w base b g m V fs s s) := by
  have HR0 := Lib.hid (R35.rd hr)
  have HA0 := Lib.hid (AB.start w (rdv s vf vp ve pb) X)
  obtain ⟨R0, hR0⟩ : ∃ R0, R0 = rdv s vf vp ve pb := ⟨_, rfl⟩
  have hE0 := (three_new w (.cells (rdv s vf vp ve pb) 35) (.cells X.enc.toArray 43) (.cells #[.int .i64 0, .int .i64 0, .int .i64 0, .int .i64 0, .slice none 0 0, .slice none 0 0, .slice none 0 0, .int .i64 0, .int .i64 0, .int .i64 0, .bool false] 35)).2.2.2
  rw [← hR0] at HR0 HA0 hE0 ⊢
  obtain ⟨E, hE⟩ : ∃ E, E = ((w.alloc (.cells R0 35)).alloc (.cells X.enc.toArray 43)).alloc (.cells #[.int .i64 0, .int .i64 0, .int .i64 0, .int .i64 0, .slice none 0 0, .slice none 0 0, .slice none 0 0, .int .i64 0, .int .i64 0, .int .i64 0, .bool false] 35) := ⟨_, rfl⟩
  rw [← hE] at HA0 hE0
  have HC1 := Lib.hid (fun W (hb : Below w.heap.size w W) => rRead_any (hr.below hb) hg X.bl X.pg)
  have HC2 := Lib.hid (Read_any (h.below hE0) hg X.bl X.pg)
  have HBE := Lib.hid hE0
  have HH := Lib.hid h
  have HRR := Lib.hid hr
  obtain ⟨k0, k1, k2, k3, k4⟩ := HA0.out.at
  have hld := HR0.out.load HA0.out.b4
  rw [← hR0] at HC1
  have HREQ := Lib.hid hR0
  unfold ReadPost at HC2
  unfold RrPost at HC1
  obtain ⟨rE, hrE⟩ : ∃ rE, rE = s.rdE X.bl X.pg := ⟨_, rfl⟩
  rw [← hrE] at HC1 HC2
  clear h hr hg hE0 hR0 hrE
  unfold KA.enc at hE ⊢
  obtain ⟨wh, bl, pg, vd, vs, x, y⟩ := X
  simp only at k0 k1 k2 k3 k4 HC1 HC2 hE w0 w1 w2 w3 w4 w5 ⊢
  go_enter Try.func14, Try.ntmps14
  go_upto_region 1 with fail
  rw [← hE]
  clear hE
  go_upto_region 14 with (first
    | ((go_at_call 18; with_reducible refine HC2.out.mono ?_); rintro e w4 ⟨P1, m1, k1, P2, m2, k2, rfl, hf1, hf2, hb4⟩; have HF1 := Lib.hid hf1.1; have HF2 := Lib.hid hf2.1; have HB4 := Lib.hid (HBE.out.trans (hb4.mono HBE.out.size)); have HA4 := Lib.hid (HA0.out.below hb4); obtain ⟨q0, q1, q2, q3, q4⟩ := HA4.out.at; have hld4 := HR0.out.load HA4.out.b4; clear hf1 hf2 hb4)
    | ((go_at_call 37; with_reducible refine (HC1.out _ HB4.out).mono ?_); rintro e w5 ⟨P3, m3, k3, P4, m4, k4, rfl, hf3, hf4, hb5⟩; have HF3 := Lib.hid hf3; have HF4 := Lib.hid hf4; have HG1 := Lib.hid (HF1.out.below hb5); have HG2 := Lib.hid (HF2.out.below hb5); have HB5 := Lib.hid (HB4.out.trans (hb5.mono HB4.out.size)); have HA5 := Lib.hid (HA4.out.below hb5); clear hf3 hf4 hb5))
  clear q0 q1 q2 q3 q4 hld4 hld
  have bd : Below w5.heap.size w5 w5.drew := (Below.refl _ _).drew
  have S4 : (loadX ⟨w.heap.size, 0, none⟩).run Try.prog w5.drew = .ok (.agg R0) w5.drew := HR0.out.load (HA5.out.below bd).b4
  have S6 : (loadX ⟨w.heap.size, 0, none⟩).run Try.prog (w5.drew.setRow (w.heap.size + 1 + 1) R0) = .ok (.agg R0) (w5.drew.setRow (w.heap.size + 1 + 1) R0) := HR0.out.load ((HA5.out.below bd).put R0).b4
  have V6 := HR0.out.store (HA5.out.below bd).b6 rfl
  have SM1 := Lib.hid (same_any _ _ _ _ w5.drew (HG1.out.1.below bd) (HF3.out.1.below bd))
  have SM2 := Lib.hid (same_any _ _ _ _ w5.drew (HG2.out.1.below bd) (HF4.out.1.below bd))
  simp only [decide_true] at SM1 SM2
  have HB6 := Lib.hid (HB5.out.trans (bd.mono HB5.out.size))
  have H65 := Lib.hid (HA5.out.below bd).b6
  clear bd
  go_region_held3 (fun W => (loadX ⟨w.heap.size, 0, none⟩).run Try.prog W = .ok (.agg R0) W) (first | assumption)
    (first
    | ((go_at_call 31; with_reducible refine SM1.out.mono ?_); rintro e w' ⟨rfl, rfl⟩)
    | ((go_at_call 31; with_reducible refine SM2.out.mono ?_); rintro e w' ⟨rfl, rfl⟩)
    | ((go_at_call 13; with_reducible refine (num_any _ _).mono ?_); rintro e w' ⟨rfl, rfl⟩))
  have HFIN : Hid (ActPost w base b g m V fs s s (.returned (.tuple #[.agg R0, .bool true])) (w5.drew.setRow (w.heap.size + 1 + 1) R0)) := Lib.hid (by
    refine ⟨vf, vp, ve, pb, by rw [HREQ.out], (HRR.out.below HB6.out).kt (setRow_kt H65.out), ((Step.refl (HH.out.below HB6.out)).of_below HB6.out).setRow H65.out (by omega)⟩)
  go_wp2
  (try simp only [Exit.inBlock, Exit.then])
  refine bodyPost_ret (v := .tuple #[.agg R0, .bool true]) ?_ rfl HFIN.out
  exact results_row1 (a := 6) (b := 7) (ty := 35) rfl _ _ (w.heap.size + 1 + 1) 35 R0 (0, 0) _ rfl (setRow_at H65.out) Try.underlying35 rfl HR0.out.size
end Go.Proofs.Ytddejcoagcaidaa
