/- Helps for the walk of ArbiterQueues: cells, marks, the state between two steps. Conditions stand in each theorem. -/
import Derived.Test.YtildofclgofjdaaRE
import Derived.Test.YtildofclgofjdaaNB
import Derived.Test.YtildofclgofjdaaOB
namespace Go.Proofs.Ytildofclgofjdaa
open Go.RowKit Go.Shelf
set_option linter.unusedVariables false
set_option maxHeartbeats 400000
set_option maxRecDepth 100000
section
variable {W W' : World}
/-- A block of one cell. -/
def Bx1 (W : World) (q : Nat) (t : TypeId) (v : Value) : Prop := W.heap[q]? = some (.cells #[v] t (0, 0))
theorem Bx1.cell {q : Nat} {t : TypeId} {v : Value} (h : Bx1 W q t v) : W.cell? ⟨q, 0, none⟩ = some v := by rw [cell_of_row W q 0 _ t (0, 0) h]; rfl
theorem Bx1.free {q : Nat} {t : TypeId} {v : Value} (h : Bx1 W q t v) : W.frozen? ⟨q, 0, none⟩ = false := frozen_of_row W q 0 _ t h
theorem Bx1.lt {q : Nat} {t : TypeId} {v : Value} (h : Bx1 W q t v) : q < W.heap.size := (Array.getElem?_eq_some_iff.1 h).1
theorem Bx1.below {q : Nat} {t : TypeId} {v : Value} (hb : Bx1 W q t v) (h : Below W.heap.size W W') : Bx1 W' q t v := (h.block q hb.lt).trans hb
theorem Bx1.chg {S : Nat → Prop} {q : Nat} {t : TypeId} {v : Value} (hb : Bx1 W q t v) (h : Chg S W W') (hS : ¬ S q) : Bx1 W' q t v := (h.block q hb.lt hS).trans hb
theorem Bx1.new (W : World) (t : TypeId) (v : Value) : Bx1 (W.alloc (.cells #[v] t)) W.heap.size t v := heap_alloc_new W _
theorem own_bx {β : Type} {q : Nat} {t : TypeId} {v : Value} (B : Nat) : OwnFrom B (fun (_ : β) W => Bx1 W q t v) := fun k X Y row hs hg hr => by
  refine (hg.block q hs.lt (fun e => ?_)).trans hs
  obtain ⟨o, ho, hc⟩ := (hr q e.symm).2
  rw [show X.heap[q]? = _ from hs] at ho; cases ho; cases hc
end
def mrk (D : Nat) : Deferred := { target := .collected D, args := #[] }
/-- The blocks of the marks: new ones, each open and empty. -/
def Marks (n0 : Nat) (Ds : List Nat) (W : World) : Prop := Ds.Nodup ∧ ∀ D ∈ Ds, n0 ≤ D ∧ W.heap[D]? = some (.deferred (some []))
theorem Marks.lt {n0 : Nat} {Ds : List Nat} {W : World} (h : Marks n0 Ds W) {D : Nat} (hD : D ∈ Ds) : D < W.heap.size := (Array.getElem?_eq_some_iff.1 (h.2 D hD).2).1
theorem Marks.keep {n0 : Nat} {Ds : List Nat} {W W' : World} (h : Marks n0 Ds W) (hk : ∀ D ∈ Ds, W'.heap[D]? = W.heap[D]?) : Marks n0 Ds W' := ⟨h.1, fun D hD => ⟨(h.2 D hD).1, (hk D hD).trans (h.2 D hD).2⟩⟩
theorem Marks.below {n0 : Nat} {Ds : List Nat} {W W' : World} (h : Marks n0 Ds W) (hb : Below W.heap.size W W') : Marks n0 Ds W' := h.keep fun D hD => hb.block D (h.lt hD)
theorem Marks.chg {n0 : Nat} {Ds : List Nat} {W W' : World} {S : Nat → Prop} (h : Marks n0 Ds W) (hc : Chg S W W') (hS : ∀ k, S k → ∀ o, W.heap[k]? = some o → o.isCells = true) : Marks n0 Ds W' := h.keep fun D hD => hc.block D (h.lt hD) fun hs => by
  have := hS D hs _ (h.2 D hD).2
  cases this
theorem Marks.one {n0 D : Nat} {W : World} (hn : n0 ≤ D) (hd : W.heap[D]? = some (.deferred (some []))) : Marks n0 [D] W := ⟨by simp, fun k hk => by rw [List.mem_singleton.1 hk]; exact ⟨hn, hd⟩⟩
theorem Marks.cons {n0 n1 : Nat} {Ds : List Nat} {W : World} {D : Nat} (h : Marks n0 Ds W) (hn : n0 ≤ n1) (hD : n1 ≤ D) (hlt : ∀ k ∈ Ds, k < n1) (hd : W.heap[D]? = some (.deferred (some []))) : Marks n0 (D :: Ds) W :=
  ⟨List.nodup_cons.2 ⟨fun hm => by have := hlt D hm; omega, h.1⟩, fun k hk => by
    rcases List.mem_cons.1 hk with rfl | hk
    · exact ⟨by omega, hd⟩
    · exact h.2 k hk⟩
theorem own_marks {β : Type} {n0 B : Nat} {Ds : List Nat} (hB : ∀ D ∈ Ds, D < B) : OwnFrom B (fun (_ : β) W => Marks n0 Ds W) := fun k X Y row hs hg hr =>
  hs.keep fun D hD => hg.block D (hs.lt hD) fun e => by have := (hr D e.symm).1; have := hB D hD; omega
/-- The world in which the marks' blocks are shut. -/
theorem leaves_marks {n n0 : Nat} {P : Program} {fn : Func} {tmps : Array Value} {R : Ending → World → Prop} : ∀ (Ds : List Nat) (W : World), Marks n0 Ds W →
    (∀ W', W'.heap.size = W.heap.size → W'.os = W.os → W'.tape = W.tape → W'.output = W.output → (∀ k, (n0 ≤ k → ∃ o, W.heap[k]? = some o ∧ o.isCells = true) → W'.heap[k]? = W.heap[k]?) → ∃ v, (results fn tmps).run P W' = .ok v W' ∧ R (.returned v) W') →
    LeavesInM Fence.wide n P fn tmps R (Ds.map mrk) .returning W
  | [], W, _, h => h W rfl rfl rfl rfl fun _ _ => rfl
  | D :: Ds, W, hm, h => by
    refine ⟨by simp, .inl ⟨D, _, rfl, run_takeDeferred (hm.2 D (by simp)).2, ?_⟩⟩
    have hnd := List.nodup_cons.1 hm.1
    refine leaves_marks (n0 := n0) Ds _ ⟨hnd.2, fun k hk => ⟨(hm.2 k (List.mem_cons_of_mem _ hk)).1, (World.putObj_heap_other (fun e => by subst e; exact hnd.1 hk)).trans (hm.2 k (List.mem_cons_of_mem _ hk)).2⟩⟩ fun W' h1 h2 h3 h4 h5 => h W' (by simpa using h1) h2 h3 h4 fun k hk => ?_
    have hkD : k ≠ D := by
      rintro rfl
      obtain ⟨o, ho, hc⟩ := hk (hm.2 k (by simp)).1
      rw [(hm.2 k (by simp)).2] at ho
      cases ho; cases hc
    exact (h5 k (fun hn => by
      obtain ⟨o, ho, hc⟩ := hk hn
      exact ⟨o, (World.putObj_heap_other hkD).trans ho, hc⟩)).trans (World.putObj_heap_other hkD)
/-- The end of a law with a variable for its result, behind marks. -/
theorem law_end {n : Nat} {P : Program} {fn : Func} {tmps : Array Value} {w W : World} {q : Nat} {Ds : List Nat} (hm : Marks w.heap.size Ds W) (hb : Below w.heap.size w W) (hq : Bx1 W q 4 (.bool true))
    (hres : ∀ W', W'.cell? ⟨q, 0, none⟩ = some (.bool true) → (results fn tmps).run P W' = .ok (.bool true) W') : LeavesInM Fence.wide n P fn tmps (OkPost w) (Ds.map mrk) .returning W :=
  leaves_marks Ds W hm fun W' h1 h2 h3 h4 h5 => ⟨.bool true, hres W' (by
    have hx : W'.heap[q]? = W.heap[q]? := h5 q fun _ => ⟨_, hq, rfl⟩
    exact Bx1.cell (W := W') (t := 4) (v := .bool true) (hx.trans hq)), rfl, ⟨h2.trans hb.os, h3.trans hb.tape, h4.trans hb.output, by have := hb.size; omega, fun k hk => (h5 k fun hn => by omega).trans (hb.block k hk)⟩⟩
/-- The same, where the variable for the result is written last. -/
theorem law_true {n : Nat} {P : Program} {fn : Func} {tmps : Array Value} {w W : World} {q : Nat} {Ds : List Nat} {v0 : Value} (hm : Marks w.heap.size Ds W) (hb : Below w.heap.size w W) (hq : Bx1 W q 4 v0) (hqw : w.heap.size ≤ q)
    (hres : ∀ W', W'.cell? ⟨q, 0, none⟩ = some (.bool true) → (results fn tmps).run P W' = .ok (.bool true) W') : LeavesInM Fence.wide n P fn tmps (OkPost w) (Ds.map mrk) .returning (W.setCell ⟨q, 0, none⟩ (.bool true)) :=
  law_end (q := q) (hm.chg (S := (· = q)) ((Chg.refl (· = q) W).setCell rfl _) fun k hk o ho => by subst hk; rw [show W.heap[k]? = _ from hq] at ho; cases ho; rfl) (hb.setCell hqw _) (heap_setCell_same W q 0 _ 4 _ hq) hres
theorem res7 (W' : World) (q : Nat) (tm : Array Value) (htm : tm.getD 6 undef = .pointer (some ⟨q, 0, none⟩)) (h : W'.cell? ⟨q, 0, none⟩ = some (.bool true)) : (results Try.f7 tm).run Try.prog W' = .ok (.bool true) W' := by
  have e : tm[6]?.getD undef = .pointer (some ⟨q, 0, none⟩) := by simpa using htm
  simp [results, Try.results7, go_sem, h, e]
/-- What the first k numbers make, each added with its class. -/
def addTo (ws : List Int) : Nat → List (Int × Int)
  | 0 => []
  | k + 1 => addL (addTo ws k) (ws.getD k 0) ((k : Int) % 4)
theorem addTo_srt (ws : List Int) : ∀ k, Srt (addTo ws k)
  | 0 => Srt.nil
  | k + 1 => (addTo_srt ws k).add _ _
theorem addTo_len (ws : List Int) : ∀ k, (addTo ws k).length ≤ k
  | 0 => Nat.le_refl _
  | k + 1 => by
    have := addTo_len ws k
    unfold addTo addL
    split
    · rw [ins_length]; omega
    · omega
theorem addTo_succ (ws : List Int) (k : Nat) (h : k < ws.length) : addTo ws (k + 1) = addL (addTo ws k) ws[k] ((k : Int) % 4) := by
  show addL _ _ _ = _
  rw [getD_eq ws k h]
theorem rc_set (s : St) (L L' : List (Int × Int)) (v v' : Value) : RC (s.with L') v' = (RC (s.with L) v).setIfInBounds 5 v' := rfl
theorem rc_keep (s : St) (L L' : List (Int × Int)) (A : Option Addr) (n c : Nat) (v' : Value) (i : Nat) (x : Int) (h : (RC (s.with L) (.slice A n c))[i]? = some (.int .i64 x)) : (RC (s.with L') v')[i]? = some (.int .i64 x) := by
  rw [rc_set s L L' (.slice A n c) v']
  by_cases e : i = 5
  · subst e
    have e2 : (RC (s.with L) (.slice A n c))[5]? = some (.slice A n c) := rfl
    rw [e2] at h
    cases h
  · rw [Array.getElem?_setIfInBounds_ne (by omega)]
    exact h
/-- Between two steps: the arbiter holds La, the reference's variable Lr. -/
structure QI (w : World) (ba ma bm : Nat) (s : St) (La Lr : List (Int × Int)) (v : Value) (mny : Int) (W : World) : Prop where
  arb : Arb W ba ma (s.with La)
  row : W.heap[bm]? = some (.cells (RC (s.with Lr) v) 35 (0, 0))
  lds : Lds W v Lr
  below : Below w.heap.size w W
  xm : Bx1 W (w.heap.size + 1) 3 (.int .i64 mny)
  xr : Bx1 W (w.heap.size + 2) 4 (.bool false)
  pb : w.heap.size + 3 ≤ ba
  pm : w.heap.size + 3 ≤ ma
  pr : w.heap.size + 3 ≤ bm
section
variable {w W W' : World} {ba ma bm : Nat} {s : St} {La Lr L' : List (Int × Int)} {v : Value} {mny : Int}
theorem QI.later (h : QI w ba ma bm s La Lr v mny W) (hb : Below W.heap.size W W') : QI w ba ma bm s La Lr v mny W' :=
  ⟨h.arb.below hb, (hb.block _ (Array.getElem?_eq_some_iff.1 h.row).1).trans h.row, h.lds.below hb, h.below.trans (hb.mono h.below.size), h.xm.below hb, h.xr.below hb, h.pb, h.pm, h.pr⟩
theorem QI.ne (h : QI w ba ma bm s La Lr v mny W) : bm ≠ ma := by
  rintro rfl
  obtain ⟨es, c, hb⟩ := h.arb.map.isMap
  rw [h.row] at hb
  cases hb
theorem QI.neb (h : QI w ba ma bm s La Lr v mny W) : bm ≠ ba := by
  rintro rfl
  have := h.row.symm.trans h.arb.blk
  injection this with this
  injection this with _ h2 _
  exact absurd h2 (by decide)
theorem QI.add (h : QI w ba ma bm s La Lr v mny W) (hp : Arb W' ba ma ((s.with La).with L')) (hc : Chg (· = ma) W W') : QI w ba ma bm s L' Lr v mny W' := by
  have hoff : Off (· = ma) v Lr := by
    rintro h0 b hb rfl
    obtain ⟨A, c, rfl, _, hr⟩ := h.lds
    obtain ⟨g, o, rfl, _, hcell⟩ := hr h0
    have hb2 : g = b := by simpa [Value.ownBlock] using hb
    subst hb2
    have hx := (hcell 0 h0).1
    obtain ⟨es, cl, hm⟩ := h.arb.map.isMap
    simp [World.cell?, hm] at hx
  have p1 := h.pm
  have hq : ∀ k, k < w.heap.size + 3 → ¬ k = ma := fun k hk e => by omega
  exact ⟨hp, (hc.block _ (Array.getElem?_eq_some_iff.1 h.row).1 h.ne).trans h.row, h.lds.chg hc hoff, h.below.trans (hc.below h.below.size (fun i hi => by omega)), h.xm.chg hc (hq _ (by omega)), h.xr.chg hc (hq _ (by omega)), h.pb, h.pm, h.pr⟩
theorem QI.radd (h : QI w ba ma bm s La Lr v mny W) {A : Option Addr} {n k : Nat} (hl : Lds W' (.slice A n k) L') (hb : Below W.heap.size W W') : QI w ba ma bm s La L' (.slice A n k) mny (W'.setRow bm (RC (s.with L') (.slice A n k))) := by
  have h1 := h.later hb
  have p1 := h.pr
  have hne1 := h1.neb
  have hne2 := h1.ne
  refine ⟨h1.arb.kept (setRow_other _ _ _ _ (by omega)) (setRow_other _ _ _ _ (by omega)), setRow_heap _ _ _ _ _ _ h1.row, ?_, h1.below.trans ⟨rfl, rfl, rfl, by simp, fun j hj => setRow_other _ _ j _ (by omega)⟩, (setRow_other _ _ _ _ (by omega)).trans h1.xm, (setRow_other _ _ _ _ (by omega)).trans h1.xr, h.pb, h.pm, h.pr⟩
  obtain ⟨A0, c0, e0, hc0, hr⟩ := hl
  refine ⟨A0, c0, e0, hc0, fun h0 => ?_⟩
  obtain ⟨g, o, e1, hg, hcell⟩ := hr h0
  refine ⟨g, o, e1, by simpa using hg, fun j hj => ?_⟩
  have key : ∀ i x, W'.cell? ⟨g, i, none⟩ = some (.int .i64 x) → (W'.setRow bm (RC (s.with L') (.slice A n k))).cell? ⟨g, i, none⟩ = some (.int .i64 x) := by
    intro i x hx
    by_cases e : g = bm
    · subst e
      rw [cell_of_row W' g i _ 35 (0, 0) h1.row] at hx
      rw [cell_of_row _ g i _ 35 (0, 0) (setRow_heap _ _ _ _ _ _ h1.row)]
      obtain ⟨A2, c2, e2, _⟩ := h1.lds
      subst e2
      exact rc_keep s Lr L' A2 _ c2 _ i x hx
    · exact (World.cell?_of_block (w := W') (setRow_other W' bm g _ e)).trans hx
  exact ⟨key _ _ (hcell j hj).1, key _ _ (hcell j hj).2⟩
theorem QI.start {wt : Bool} {bu hi me lo : Int} (hA : Arb W ba ma (St.new wt bu hi me lo)) (hB : Below w.heap.size w W) (xm : Bx1 W (w.heap.size + 1) 3 (.int .i64 mny)) (xr : Bx1 W (w.heap.size + 2) 4 (.bool false)) (pb : w.heap.size + 3 ≤ ba) (pm : w.heap.size + 3 ≤ ma) (cs : Array Value) :
    QI w ba ma W.heap.size (St.new wt bu hi me lo) [] [] (.slice none 0 0) mny ((W.alloc (.cells cs 35)).setRow W.heap.size (RC (St.new wt bu hi me lo) (.slice none 0 0))) := by
  have hs := hB.size
  have l1 := hA.lt
  have l2 := hA.map.lt
  have hW : Below W.heap.size W ((W.alloc (.cells cs 35)).setRow W.heap.size (RC (St.new wt bu hi me lo) (.slice none 0 0))) := (below_alloc W _).trans ⟨rfl, rfl, rfl, by simp, fun j hj => setRow_other _ _ j _ (by omega)⟩
  exact ⟨hA.below hW, setRow_heap _ _ _ _ _ _ (heap_alloc_new W _), Lds.nil _, hB.trans (hW.mono hs), xm.below hW, xr.below hW, pb, pm, by omega⟩
theorem QI.c5 (h : QI w ba ma bm s La Lr v mny W) : W.cell? ⟨bm, 5, none⟩ = some v := (cell_of_row W bm 5 _ 35 (0, 0) h.row).trans rfl
end
theorem It.mono {lo hi hi' : Nat} {W : World} {B4 B3 : Nat} {L : List (Int × Int)} (h : It lo hi W B4 B3 L) (hh : hi ≤ hi') : It lo hi' W B4 B3 L := by
  obtain ⟨b4, b3, srt, ⟨A, c, hc, hr⟩, hm⟩ := h
  refine ⟨⟨b4.1, by omega⟩, ⟨b3.1, by omega⟩, srt, ⟨A, c, hc, fun h0 => ?_⟩, fun h0 => ?_⟩
  · obtain ⟨g, o, e, hg1, hg, hj⟩ := hr h0
    exact ⟨g, o, e, hg1, by omega, hj⟩
  · obtain ⟨mc, hmc1, hmc, h1, h2⟩ := hm h0
    exact ⟨mc, hmc1, by omega, h1, h2⟩
theorem Kpt.of_below {lo hi : Nat} {W W' : World} (h : Below hi W W') : Kpt lo hi W W' := fun k _ hk => h.block k hk
theorem Kpt.of_chg {lo hi m : Nat} {W W' : World} (h : Chg (· = m) W W') (hm : m < lo) (hh : hi ≤ W.heap.size) : Kpt lo hi W W' := fun k h1 h2 => h.block k (by omega) (by omega)
end Go.Proofs.Ytildofclgofjdaa
