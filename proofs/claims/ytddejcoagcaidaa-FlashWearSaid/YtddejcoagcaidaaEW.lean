/- Ranges over iterators; slices.All over numbers; Wear. Conditions stand in each theorem. -/
import Derived.RangeFuncNested
import Derived.RangeFuncBound
import Derived.RangeFuncCalls
import Derived.RangeFuncLeaves
import Derived.RangeFuncFrom
import Derived.RangeFuncWrites
import Derived.Shelf.Abstract
import Derived.Shelf.RegionOpen
import Derived.OwnWalkIn
import Derived.TacticsInMore
import Derived.LoopNIn
import Derived.LoopIn
import Derived.Maps.OwnIn
import Derived.Test.YtddejcoagcaidaaDP
namespace Go.Proofs.Ytddejcoagcaidaa
section
open Go.RowKit Go.Shelf
attribute [local go_sem] Oper.semAt_some
set_option linter.unusedVariables false
set_option maxHeartbeats 1000000
set_option maxRecDepth 100000
theorem RoundIn.deep {m : Nat} (m' : Nat) {P : Program} {l : Nat} {f : FuncId} {tmps : Array Value} {assign body : Code} {w : World} {R : Ending → World → Prop}
    (h : RoundIn Fence.wide m P l f tmps assign body w R) : RoundIn Fence.wide m' P l f tmps assign body w R := ⟨h.1, fun c cs _ => h.2 c cs (fun d hd => by cases hd)⟩
/-- A round at element x ends as R says. -/
abbrev Ynd (P : Program) (l : Nat) (args : Array Value) (W : World) (R : Ending → World → Prop) : Prop := YieldAt Fence.wide 9 P l args W R
/-- Every block of cells outside of S is as it was. -/
def Kc (S : Nat → Prop) (W W' : World) : Prop := W.heap.size ≤ W'.heap.size ∧ ∀ k o, W.heap[k]? = some o → o.isCells = true → ¬ S k → W'.heap[k]? = some o
section
variable {S : Nat → Prop} {A B C W W' : World}
theorem Kc.refl (S : Nat → Prop) (W : World) : Kc S W W := ⟨Nat.le_refl _, fun _ _ h _ _ => h⟩
theorem Kc.trans (h : Kc S A B) (k : Kc S B C) : Kc S A C := ⟨Nat.le_trans h.1 k.1, fun i o hi ho hS => k.2 i o (h.2 i o hi ho hS) ho hS⟩
theorem Kc.putObj (S : Nat → Prop) (W : World) (l : Nat) (o o' : Obj) (h : W.heap[l]? = some o) (hc : o.isCells = false) : Kc S W (W.putObj l o') :=
  ⟨by simp, fun k o2 hk ho hS => (World.putObj_heap_other (fun e => by subst e; rw [h] at hk; cases hk; rw [hc] at ho; cases ho)).trans hk⟩
theorem Kc.of_below (h : Below W.heap.size W W') : Kc S W W' := ⟨h.size, fun k o hk _ _ => (h.block k (Array.getElem?_eq_some_iff.1 hk).1).trans hk⟩
theorem Kc.of_chg (h : Chg S W W') : Kc S W W' := ⟨h.size, fun k o hk _ hS => (h.block k (Array.getElem?_eq_some_iff.1 hk).1 hS).trans hk⟩
end
theorem kf_base {B B' : Nat} {W W' : World} (h : KeepsFrom B W W') (hB : B ≤ B') : KeepsFrom B' W W' := ⟨h.size, fun k o hk => h.same k o (Nat.le_trans hB hk)⟩
theorem kf_low {B l : Nat} (W : World) (o' : Obj) (h : l < B) : KeepsFrom B W (W.putObj l o') := ⟨by simp, fun k o hk ho _ => (World.putObj_heap_other (by omega)).trans ho⟩
/-- What a round keeps: the cells outside of S, and whatever has no cells and lies from B on. -/
def Kd (S : Nat → Prop) (B : Nat) (W W' : World) : Prop := Kc S W W' ∧ KeepsFrom B W W'
/-- The iterator g, with what it has captured, yields the list L, one after the other, or a beginning of it; a round keeps what Kd says. The user's state J abides new blocks, and changes of blocks without cells that are newer than the call. -/
def Yields {α : Type} (P : Program) (g : Nat) (lb : Array Value) (encs : α → Array Value) (S : Nat → Prop) (B : Nat) (L : List α) (w : World) : Prop :=
  ∀ (l : Nat) (J Jx : Nat → World → Prop) (W : World), Below w.heap.size w W → B ≤ W.heap.size → OwnFrom W.heap.size J → OwnFrom W.heap.size Jx →
    (∀ k (hk : k < L.length) W1, J k W1 → Ynd P l (encs L[k]) W1 fun e W' => (e = .returned (.bool true) ∧ J (k + 1) W' ∧ Kd S B W1 W') ∨ (e = .returned (.bool false) ∧ Jx (k + 1) W' ∧ KeepsFrom B W1 W')) →
    J 0 W → CallsIn Fence.wide 9 P g (#[.func (.yield l) #[] #[]] ++ lb) W fun e W' => (∃ v, e = .returned v) ∧ (J L.length W' ∨ ∃ k, k ≤ L.length ∧ Jx k W')
/-- How the body of a round may be left. -/
def outPost (B : Nat) (S : Nat → Prop) (I : World → Prop) (Ix : Code → World → Prop) (W : World) : Exit → Act → World → Prop
  | .normal, _, W' => KeepsFrom B W W' ∧ Kc S W W' ∧ I W'
  | .ret, _, W' => KeepsFrom B W W' ∧ Ix .ret W'
  | .exit i, _, W' => KeepsFrom B W W' ∧ Ix (.exit i) W'
  | .goto t, _, W' => KeepsFrom B W W' ∧ Ix (.goto t) W'
  | .panic _, _, _ => False
  | .outgrown, _, _ => False
section
variable {P : Program} {w : World}
theorem two_laid (w : World) (o1 o2 : Obj) : ((w.alloc o1).alloc o2).heap[w.heap.size]? = some o1 ∧ ((w.alloc o1).alloc o2).heap[w.heap.size + 1]? = some o2 ∧ ((w.alloc o1).alloc o2).heap.size = w.heap.size + 2 ∧ Below w.heap.size w ((w.alloc o1).alloc o2) := by
  have h := World.alloc_heap_new (w.alloc o1) o2
  rw [World.size_alloc] at h
  exact ⟨(Below.heap_alloc _ _ _ (by simp)).trans (World.alloc_heap_new w o1), h, by simp, ((Below.refl _ w).alloc (Nat.le_refl _) _).alloc (by simp) _⟩
theorem range_list {α : Type} {n : Nat} {g : Operand} {ps : Array Tmp} {assign body : Code} {Q : Exit → Act → World → Prop} {a : Act} {gf : Nat} {lb : Array Value}
    (hg : a.eval g = .func (.func gf) #[] lb) (eg : ∀ args w, (callFunc gf args).run P w = .ok (.enter gf args) w)
    {encs : α → Array Value} {S : Nat → Prop} {L : List α} {w0 : World} (hy : Yields P gf lb encs S (w.heap.size + 2) L w0) (hb0 : Below w0.heap.size w0 w) (hps : ∀ x, (encs x).size = ps.size)
    (I : Nat → World → Prop) (Ix : Code → Nat → World → Prop) (hI : OwnFrom w.heap.size I) (hIx : ∀ c, OwnFrom w.heap.size (Ix c)) (h0 : I 0 w)
    (Ax : Nat → Act → World → Prop) (hAx : ∀ k a', OwnFrom w.heap.size (fun (_ : Unit) W => Ax k a' W))
    (hassign : ∀ (l k : Nat) (hk : k < L.length) (W : World) (K : Act → World → Prop), I k W → (∀ a' W', KeepsFrom w.heap.size W W' → Kc S W W' → I k W' → Ax k a' W' → K a' W') →
      assign.wpIn (Fence.wide.inRound l) 9 P (Exit.then K (fun _ _ _ => False)) { tmps := (ps.zip (encs L[k])).foldl (fun t (p, v) => t.setIfInBounds p v) a.tmps, defers := [] } W)
    (hbody : ∀ (l k : Nat) (hk : k < L.length) (a' : Act) (W : World), w.heap.size ≤ l → I k W → Ax k a' W → body.wpIn (Fence.wide.inRound l) 9 P (outPost w.heap.size S (I (k + 1)) (fun c => Ix c (k + 1)) W) a' W)
    (hdone : ∀ (D : Nat) (W : World), w.heap.size ≤ D → I L.length W → W.heap[D]? = some (.deferred (some [])) → Q .normal { a with defers := { target := .collected D, args := #[] } :: a.defers } W)
    (hstop : ∀ (D : Nat) (c : Code) (k : Nat) (W : World), w.heap.size ≤ D → k ≤ L.length → Ix c k W → W.heap[D]? = some (.deferred (some [])) → c.wpIn Fence.wide n P Q { a with defers := { target := .collected D, args := #[] } :: a.defers } W) :
    (Code.rangeFunc g ps assign body).wpIn Fence.wide n P Q a w := by
  refine wpIn_rangeFunc fun fn hfn => ?_
  -- the record of the loop, and the world in which the iterator is called
  obtain ⟨R, hR⟩ : ∃ R : LoopState → Option Code → Loop, R = fun st pe => { state := st, pending := pe, fn, tmps := a.tmps, params := ps, assign, body, defers := w.heap.size } := ⟨_, rfl⟩
  obtain ⟨hD0, hL0, hs0, hbe⟩ := two_laid w (.deferred (some [])) (.loop (R .ready none))
  have hI0 : I 0 ((w.alloc (.deferred (some []))).alloc (.loop (R .ready none))) := hI.alloc _ (hI.alloc _ h0)
  have hen : (Instr.enterLoop fn a.tmps ps assign body Fence.wide.round).run P w = .ok (w.heap.size + 1, [{ target := .collected w.heap.size, args := #[] }]) ((w.alloc (.deferred (some []))).alloc (.loop (R .ready none))) := by
    rw [hR]; exact run_enterLoop_outer _ _ _ _ _
  generalize (w.alloc (.deferred (some []))).alloc (.loop (R .ready none)) = W1 at *
  refine ⟨w.heap.size + 1, _, W1, { target := .fn (.func gf) lb, args := #[.func (.yield (w.heap.size + 1)) #[] #[]] }, W1, gf, #[.func (.yield (w.heap.size + 1)) #[] #[]] ++ lb, W1, hen, by simp only [resolve, hg]; simp [go_sem], fun f' hf' => trivial, by simp [invoke, go_sem, eg], (fun h => by cases h), ?_⟩
  have hnew : ∀ {A : World} {row : Option Nat}, (∀ r, row = some r → W1.heap.size ≤ r ∧ ∃ o : Obj, A.heap[r]? = some o ∧ o.isCells = false) → (∀ r, row = some r → w.heap.size ≤ r ∧ ∃ o : Obj, A.heap[r]? = some o ∧ o.isCells = false) :=
    fun hr r e => ⟨by have := (hr r e).1; omega, (hr r e).2⟩
  have hkeep : ∀ {A B : World} {row : Option Nat} {t : Nat} {o : Obj}, A.grownBy B row → (∀ r, row = some r → W1.heap.size ≤ r ∧ ∃ o : Obj, A.heap[r]? = some o ∧ o.isCells = false) → t < w.heap.size + 2 → A.heap[t]? = some o → B.heap[t]? = some o :=
    fun hgr hr ht ho => (hgr.block _ (Array.getElem?_eq_some_iff.1 ho).1 (fun e => by have := (hr _ e.symm).1; omega)).trans ho
  have hcall := hy (w.heap.size + 1) (fun k W => I k W ∧ W.heap[w.heap.size + 1]? = some (.loop (R .ready none)) ∧ W.heap[w.heap.size]? = some (.deferred (some [])))
    (fun k W => ∃ c, Ix c k W ∧ W.heap[w.heap.size + 1]? = some (.loop (R .done (some c))) ∧ W.heap[w.heap.size]? = some (.deferred (some []))) W1 (hb0.trans (hbe.mono hb0.size)) (by omega)
    (fun k A B row hs hgr hr => ⟨hI k A B row hs.1 hgr (hnew hr), hkeep hgr hr (by omega) hs.2.1, hkeep hgr hr (by omega) hs.2.2⟩)
    (fun k A B row ⟨c, h1, h2, h3⟩ hgr hr => ⟨c, hIx c k A B row h1 hgr (hnew hr), hkeep hgr hr (by omega) h2, hkeep hgr hr (by omega) h3⟩)
    ?_ ⟨hI0, hL0, hD0⟩
  · refine ((callsIn_wide.2 (callsIn_wide.1 hcall) : CallsIn Fence.wide (n - 1) P gf _ W1 _)).mono ?_
    rintro e W2 ⟨⟨v, rfl⟩, (⟨hi, hl, hd⟩ | ⟨k, hk, c, hi, hl, hd⟩)⟩
    · have he := run_endLoop (P := P) hl (by rw [hR]; simp)
      exact ⟨none, _, by rw [hR] at he; exact he, hdone _ _ (Nat.le_refl _) (hI.putObj _ hi (by omega) hl rfl) ((World.putObj_heap_other (by omega)).trans hd)⟩
    · have he := run_endLoop (P := P) hl (by rw [hR]; simp)
      exact ⟨some c, _, by rw [hR] at he; exact he, hstop _ c k _ (Nat.le_refl _) hk ((hIx c).putObj _ hi (by omega) hl rfl) ((World.putObj_heap_other (by omega)).trans hd)⟩
  · -- one round
    rintro k hk W ⟨hi, hl, hd⟩
    have hyl := run_yield (P := P) (args := encs L[k]) hl (by rw [hR]; exact hps _)
    rw [hR] at hyl
    refine ⟨fn, _, assign, body, hyl, roundIn_of_wpIn hfn (hassign _ k hk W _ hi ?_)⟩
    intro a' Wa hka hkp hia hax
    have hla := hka.same _ _ (by omega) hl rfl
    have hda := hka.same _ _ (Nat.le_refl _) hd rfl
    have hlt := (Array.getElem?_eq_some_iff.1 hla).1
    refine ⟨_, run_beginRound hla (by rw [hR]), ?_⟩
    have hl2 : (Wa.putObj (w.heap.size + 1) (.loop { R .ready none with state := .busy })).heap[w.heap.size + 1]? = some (.loop { R .ready none with state := .busy }) := World.putObj_heap_same hlt
    have hd2 : (Wa.putObj (w.heap.size + 1) (.loop { R .ready none with state := .busy })).heap[w.heap.size]? = some (.deferred (some [])) := (World.putObj_heap_other (by omega)).trans hda
    have hk2 : Kd S (w.heap.size + 2) Wa (Wa.putObj (w.heap.size + 1) (.loop { R .ready none with state := .busy })) := ⟨Kc.putObj S _ _ _ _ hla rfl, kf_low _ _ (by omega)⟩
    have hb := hbody (w.heap.size + 1) k hk a' (Wa.putObj (w.heap.size + 1) (.loop { R .ready none with state := .busy })) (by omega) (hI.putObj _ hia (by omega) hla rfl) ((hAx k a').putObj (s := ()) _ hax (by omega) hla rfl)
    generalize Wa.putObj (w.heap.size + 1) (.loop { R .ready none with state := .busy }) = W3 at *
    have leave : ∀ (jump : Option Code) (W4 : World), KeepsFrom w.heap.size W3 W4 →
        (Instr.endRound (w.heap.size + 1) jump).run P W4 = .ok (.bool jump.isNone) (W4.putObj (w.heap.size + 1) (.loop (R (if jump.isNone then .ready else .done) jump))) ∧ W4.heap[w.heap.size + 1]? = some (.loop { R .ready none with state := .busy }) ∧
        (W4.putObj (w.heap.size + 1) (.loop (R (if jump.isNone then .ready else .done) jump))).heap[w.heap.size + 1]? = some (.loop (R (if jump.isNone then .ready else .done) jump)) ∧
        (W4.putObj (w.heap.size + 1) (.loop (R (if jump.isNone then .ready else .done) jump))).heap[w.heap.size]? = some (.deferred (some [])) := fun jump W4 hk4 => by
      have hl4 := hk4.same _ _ (by omega) hl2 rfl
      have he := run_endRound (P := P) jump hl4
      rw [hR] at he ⊢
      rw [hR] at hl4
      exact ⟨he, hl4, World.putObj_heap_same (Array.getElem?_eq_some_iff.1 hl4).1, (World.putObj_heap_other (by omega)).trans (hk4.same _ _ (Nat.le_refl _) hd2 rfl)⟩
    refine wpIn_mono hb ?_
    rintro e a4 W4 hp
    cases e with
    | normal =>
      obtain ⟨hk4, hkp4, hi4⟩ := hp
      obtain ⟨q1, q2, q3, q4⟩ := leave none W4 hk4
      exact ⟨_, _, q1, .inl ⟨rfl, ⟨hI.putObj _ hi4 (by omega) q2 rfl, q3, q4⟩, ⟨hkp.trans ((hk2.1.trans hkp4).trans (Kc.putObj S _ _ _ _ q2 rfl)), (kf_base hka (by omega)).trans ((hk2.2.trans (kf_base hk4 (by omega))).trans (kf_low _ _ (by omega)))⟩⟩⟩
    | ret =>
      obtain ⟨hk4, hi4⟩ := hp
      obtain ⟨q1, q2, q3, q4⟩ := leave (some .ret) W4 hk4
      exact ⟨_, _, q1, .inr ⟨rfl, ⟨.ret, (hIx _).putObj _ hi4 (by omega) q2 rfl, q3, q4⟩, (kf_base hka (by omega)).trans ((hk2.2.trans (kf_base hk4 (by omega))).trans (kf_low _ _ (by omega)))⟩⟩
    | exit i =>
      obtain ⟨hk4, hi4⟩ := hp
      obtain ⟨q1, q2, q3, q4⟩ := leave (some (.exit i)) W4 hk4
      exact ⟨_, _, q1, .inr ⟨rfl, ⟨.exit i, (hIx _).putObj _ hi4 (by omega) q2 rfl, q3, q4⟩, (kf_base hka (by omega)).trans ((hk2.2.trans (kf_base hk4 (by omega))).trans (kf_low _ _ (by omega)))⟩⟩
    | goto t =>
      obtain ⟨hk4, hi4⟩ := hp
      obtain ⟨q1, q2, q3, q4⟩ := leave (some (.goto t)) W4 hk4
      exact ⟨_, _, q1, .inr ⟨rfl, ⟨.goto t, (hIx _).putObj _ hi4 (by omega) q2 rfl, q3, q4⟩, (kf_base hka (by omega)).trans ((hk2.2.trans (kf_base hk4 (by omega))).trans (kf_low _ _ (by omega)))⟩⟩
    | panic c => exact hp.elim
    | outgrown => exact hp.elim
end
end
section
open Go.RowKit Go.Shelf
attribute [local go_sem] Oper.semAt_some
set_option linter.unusedVariables false
set_option maxHeartbeats 2000000
set_option maxRecDepth 100000
section
variable {S : Nat → Prop} {A B C W W' : World}
/-- A row of numbers. -/
def RowI (W : World) (g : Nat) (l : List Int) : Prop := ∃ cur, W.heap[g]? = some (.cells cur 3 (0, 0)) ∧ ∀ j (h : j < l.length), cur[j]? = some (.int .i64 l[j])
theorem RowI.below {W W' : World} {g : Nat} {l : List Int} (h : RowI W g l) (hb : Below W.heap.size W W') : RowI W' g l := by
  obtain ⟨cur, h1, r⟩ := h
  exact ⟨cur, (hb.block g (Array.getElem?_eq_some_iff.1 h1).1).trans h1, r⟩
theorem RowI.at {W : World} {g : Nat} {l : List Int} (h : RowI W g l) {k : Nat} (hk : k < l.length) : W.cell? ⟨g, k, none⟩ = some (.int .i64 l[k]) := by
  obtain ⟨cur, h1, r⟩ := h
  exact (cell_of_row W g k _ 3 (0, 0) h1).trans (r k hk)
theorem Kc.row (h : Kc S W W') {g : Nat} {l : List Int} (hr : RowI W g l) (hS : ¬ S g) : RowI W' g l := by
  obtain ⟨cur, h1, r⟩ := hr
  exact ⟨cur, h.2 g _ h1 rfl hS, r⟩
/-- A box of one cell. -/
def Bx1 (W : World) (q : Nat) (t : TypeId) (v : Value) : Prop := W.heap[q]? = some (.cells #[v] t (0, 0))
theorem Bx1.cell {q : Nat} {t : TypeId} {v : Value} (h : Bx1 W q t v) : W.cell? ⟨q, 0, none⟩ = some v := by rw [cell_of_row W q 0 _ t (0, 0) h]; rfl
theorem Bx1.free {q : Nat} {t : TypeId} {v : Value} (h : Bx1 W q t v) : W.frozen? ⟨q, 0, none⟩ = false := frozen_of_row W q 0 _ t h
theorem Bx1.lt {q : Nat} {t : TypeId} {v : Value} (h : Bx1 W q t v) : q < W.heap.size := (Array.getElem?_eq_some_iff.1 h).1
theorem Bx1.kc {q : Nat} {t : TypeId} {v : Value} (hb : Bx1 W q t v) (h : Kc S W W') (hS : ¬ S q) : Bx1 W' q t v := h.2 q _ hb rfl hS
theorem Bx1.below {q : Nat} {t : TypeId} {v : Value} (hb : Bx1 W q t v) (h : Below W.heap.size W W') : Bx1 W' q t v := (h.block q hb.lt).trans hb
theorem Bx1.new (W : World) (t : TypeId) (v : Value) : Bx1 (W.alloc (.cells #[v] t)) W.heap.size t v := heap_alloc_new W _
theorem Bx1.put {q : Nat} {t : TypeId} {v : Value} (hb : Bx1 W q t v) {l : Nat} {o o' : Obj} (h : W.heap[l]? = some o) (hc : o.isCells = false) : Bx1 (W.putObj l o') q t v :=
  (Kc.putObj (fun _ => False) W l o o' h hc).2 q _ hb rfl (fun h => h)
theorem own_row {g : Nat} {l : List Int} (B : Nat) : OwnFrom B (fun (_ : Nat) W => RowI W g l) := fun k X Y row hs hg hr => by
  obtain ⟨cur, h1, r⟩ := hs
  refine ⟨cur, (hg.block g (Array.getElem?_eq_some_iff.1 h1).1 (fun e => ?_)).trans h1, r⟩
  obtain ⟨o, ho, hc⟩ := (hr g e.symm).2
  rw [h1] at ho; cases ho; cases hc
theorem own_bx {β : Type} {q : Nat} {t : TypeId} {v : Value} (B : Nat) : OwnFrom B (fun (_ : β) W => Bx1 W q t v) := fun k X Y row hs hg hr => by
  refine (hg.block q hs.lt (fun e => ?_)).trans hs
  obtain ⟨o, ho, hc⟩ := (hr q e.symm).2
  rw [show X.heap[q]? = _ from hs] at ho; cases ho; cases hc
end
/-- The blocks with their numbers. -/
def enum (l : List Int) : List (Nat × Int) := (List.range l.length).map fun i => (i, l.getD i 0)
theorem enum_length (l : List Int) : (enum l).length = l.length := by simp [enum]
theorem enum_at {l : List Int} {k : Nat} (h : k < l.length) : (enum l)[k]'(by rw [enum_length]; exact h) = (k, l[k]) := by simp [enum, h]
abbrev ev (x : Nat × Int) : Array Value := #[.int .i64 (x.1 : Int), .int .i64 x.2]
theorem all1_in (S : Nat → Prop) (B' l0 B g cap : Nat) (l : List Int) (hl : l.length ≤ 4096) (hgS : ¬ S g) (J Jx : Nat → World → Prop) (W0 : World) (hJ : OwnFrom W0.heap.size J)
    (hY : ∀ k (hk : k < l.length) W1, J k W1 → Ynd Try.prog l0 #[.int .i64 (k : Int), .int .i64 l[k]] W1 fun e W' => (e = .returned (.bool true) ∧ J (k + 1) W' ∧ Kd S B' W1 W') ∨ (e = .returned (.bool false) ∧ Jx (k + 1) W' ∧ KeepsFrom B' W1 W'))
    (hc : W0.cell? ⟨B, 0, none⟩ = some (.slice (some ⟨g, 0, none⟩) l.length cap)) (hr : RowI W0 g l) (h0 : J 0 W0) :
    CallsIn Fence.wide 9 Try.prog 65 #[.func (.yield l0) #[] #[], .pointer (some ⟨B, 0, none⟩)] W0 fun e W' => (∃ v, e = .returned v) ∧ (J l.length W' ∨ ∃ k, k ≤ l.length ∧ Jx k W') := by
  have H0 := Lib.hid h0
  have HR := Lib.hid hr
  have HY := Lib.hid hY
  have HJ := Lib.hid hJ
  have hl2 : (l.length : Int) ≤ 4096 := by omega
  clear h0 hr hY hJ
  refine callsIn_of_wp Try.func65 rfl trivial ?_ rfl
  simp only [Try.ntmps65, List.size_toArray, List.length_cons, List.length_nil, Nat.reduceAdd, Nat.reduceSub, Array.replicate_succ, Array.replicate_zero, List.push_toArray, List.append_toArray, List.nil_append, List.cons_append]
  gi_wp2
  gi_loopw [7] (fun i wr => ∃ k : Nat, k ≤ l.length ∧ i = .int .i64 k ∧ Hid (J k wr) ∧ Hid (RowI wr g l)) (fun i _ => l.length - (RowKit.intOf i).toNat)
  case atStart => exact ⟨0, Nat.zero_le _, rfl, H0, HR⟩
  case round =>
    obtain ⟨k, hk, rfl, HJk, HRk⟩ := hrel
    by_cases hlt : k < l.length
    · have c0 := HRk.out.at hlt
      obtain ⟨fn, tmps, assign, body, hy, hR⟩ := HY.out k hlt _ HJk.out
      have HR2 := HRk
      have HRR := Lib.hid hR
      clear hR
      generalize l[k] = x at *
      gi_wp2
      refine (RoundIn.deep 8 HRR.out).mono ?_
      rintro e W3 (⟨rfl, hJ3, hk3⟩ | ⟨rfl, hJx3, hkx⟩)
      · have HJ3 := Lib.hid hJ3
        have HR3 := Lib.hid (hk3.1.row HR2.out hgS)
        clear hJ3 hk3
        gi_wp2
        go_roundw
        case rel => exact ⟨k + 1, by omega, by go_num, HJ3, HR3⟩
        case measure => simp [RowKit.intOf]; omega
      · have HJ3 := Lib.hid hJx3
        clear hJx3
        gi_wp2
        refine bodyPost_ret (results_none rfl _ _ _) rfl ?_
        exact ⟨⟨_, rfl⟩, .inr ⟨k + 1, by omega, HJ3.out⟩⟩
    · have hkl : k = l.length := by omega
      subst hkl
      gi_wp2
      go_end0
      exact ⟨⟨_, rfl⟩, .inl HJk.out⟩
theorem all1_yields (S : Nat → Prop) (B' B g cap : Nat) (l : List Int) (w : World) (hl : l.length ≤ 4096) (hgS : ¬ S g) (hc : Bx1 w B 24 (.slice (some ⟨g, 0, none⟩) l.length cap)) (hr : RowI w g l) :
    Yields Try.prog 65 #[.pointer (some ⟨B, 0, none⟩)] ev S B' (enum l) w := fun l0 J Jx W hW hB' hJ hJx hY h0 => by
  have hy : ∀ k (hk : k < l.length) W1, J k W1 → Ynd Try.prog l0 #[.int .i64 (k : Int), .int .i64 l[k]] W1 fun e W' => (e = .returned (.bool true) ∧ J (k + 1) W' ∧ Kd S B' W1 W') ∨ (e = .returned (.bool false) ∧ Jx (k + 1) W' ∧ KeepsFrom B' W1 W') := fun k hk W1 h1 => by
    have := hY k (by rw [enum_length]; exact hk) W1 h1
    rw [enum_at hk] at this
    exact this
  have := all1_in S B' l0 B g cap l hl hgS J Jx W hJ hy (hc.below hW).cell (hr.below hW) h0
  rw [enum_length]
  exact this
theorem all1_nil (S : Nat → Prop) (B' B : Nat) (w : World) (hc : Bx1 w B 24 (.slice none 0 0)) :
    Yields Try.prog 65 #[.pointer (some ⟨B, 0, none⟩)] ev S B' (enum []) w := fun l0 J Jx W hW hB' hJ hJx hY h0 => by
  have c0 := (hc.below hW).cell
  have H0 := Lib.hid h0
  clear hY hJ hJx h0 hc
  refine callsIn_of_wp Try.func65 rfl trivial ?_ rfl
  simp only [Try.ntmps65, List.size_toArray, List.length_cons, List.length_nil, Nat.reduceAdd, Nat.reduceSub, Array.replicate_succ, Array.replicate_zero, List.push_toArray, List.append_toArray, List.nil_append, List.cons_append]
  gi_wp2
  refine wpIn_loop_rounds 1 ?_
  rw [roundsIn_succ]
  gi_wp2
  go_end0
  exact ⟨⟨_, rfl⟩, .inl H0.out⟩
theorem All_any (A : Option Addr) (n c : Nat) (W : World) : Calls Try.prog 53 #[.slice A n c] W fun e W' => e = .returned (.func (.func 65) #[] #[.pointer (some ⟨W.heap.size, 0, none⟩)]) ∧ W' = W.alloc (.cells #[.slice A n c] 24) := by
  refine (callsIn_wide (n := 9)).1 ?_
  refine callsIn_of_wp_marks Try.func53 rfl trivial ?_ rfl
  simp only [Try.ntmps53, List.size_toArray, List.length_cons, List.length_nil, Nat.reduceAdd, Nat.reduceSub, Array.replicate_succ, Array.replicate_zero, List.push_toArray, List.append_toArray, List.nil_append, List.cons_append]
  gi_wp2
  exact ⟨_, results_tmp rfl _ _ _, rfl, rfl⟩
end
section
open Go.RowKit Go.Shelf
attribute [local go_sem] Oper.semAt_some
set_option linter.unusedVariables false
set_option maxHeartbeats 4000000
set_option maxRecDepth 100000
/-- The erase counts of a device. -/
def ersL (s : Dev) : List Int := (List.range s.nb).map fun i => (s.bk i).er
theorem ersL_length (s : Dev) : (ersL s).length = s.nb := by simp [ersL]
theorem ersL_at {s : Dev} {k : Nat} (h : k < s.nb) : (ersL s)[k]'(by rw [ersL_length]; exact h) = (s.bk k).er := by simp [ersL]
theorem count_any (er : Int) (A : Option Addr) (n c : Nat) (w : World) : Calls Try.prog 51 #[.agg #[.int .i64 er, .slice A n c]] w (RetB w (.int .i64 er)) := by
  go_enter Try.func51, Try.ntmps51
  go_wp2
  go_ret
  exact ⟨rfl, balloc w _⟩
theorem make_counts (n : Nat) (hn : n ≤ 4096) (W : World) : (Instr.makeSlice 24 (.int .i64 (n : Int)) (.int .i64 (n : Int))).run Try.prog W = .ok (.slice (some ⟨W.heap.size, 0, none⟩) n n) (W.alloc (.cells (madeCells #[.int .i64 0] n) 3)) := by
  obtain ⟨i0, hi0, hz0, hz1, hz2⟩ := info_parts info3
  have hr := run_makeSlice (P := Try.prog) W 24 3 i0 _ Try.underlying24 hi0 hz0 .i64 .i64 n n (by omega) (Int.le_refl _) (by rw [hz1]; omega) (by rw [hz2]; omega) (by omega)
  simp only [Int.toNat_natCast] at hr
  rw [hr, hz1, Nat.mul_one]
  rfl
/-- The first k counts are there. -/
def CntI (W : World) (G : Nat) (s : Dev) (k : Nat) : Prop := ∃ cur : Array Value, W.heap[G]? = some (.cells cur 3 (0, 0)) ∧ cur.size = s.nb ∧ ∀ j, j < k → cur[j]? = some (.int .i64 (s.bk j).er)
theorem CntI.below {W W' : World} {G k : Nat} {s : Dev} (h : CntI W G s k) (hb : Below W.heap.size W W') : CntI W' G s k := by
  obtain ⟨cur, h1, r⟩ := h
  exact ⟨cur, (hb.block G (Array.getElem?_eq_some_iff.1 h1).1).trans h1, r⟩
theorem CntI.set {W : World} {G k : Nat} {s : Dev} (h : CntI W G s k) (hk : k < s.nb) : CntI (W.setCell ⟨G, k, none⟩ (.int .i64 (s.bk k).er)) G s (k + 1) := by
  obtain ⟨cur, h1, h2, h3⟩ := h
  refine ⟨cur.setIfInBounds k (.int .i64 (s.bk k).er), heap_setCell_same W G k cur 3 _ h1, by rw [Array.size_setIfInBounds]; exact h2, fun j hj => ?_⟩
  by_cases e : j = k
  · subst e
    rw [Array.getElem?_setIfInBounds_self_of_lt (by omega)]
  · rw [Array.getElem?_setIfInBounds_ne (fun e' => e e'.symm)]
    exact h3 j (by omega)
theorem counts_any {w : World} {base b g m : Nat} {V : Nat → Value} {s : Dev} (h : Dv w base b g m V s) (hg : Gd s) :
    Calls Try.prog 50 #[.slice (some ⟨g, 0, none⟩) s.nb s.nb, .func (.func 51) #[] #[]] w fun e w' => ∃ G, e = .returned (.slice (some ⟨G, 0, none⟩) s.nb s.nb) ∧ RowI w' G (ersL s) ∧ w.heap.size ≤ G ∧ Below w.heap.size w w' := by
  have hnb := hg.nb
  have hmk := make_counts s.nb (by omega) w
  have n0 : (0 : Int) ≤ (s.nb : Int) := by omega
  have n1 : (s.nb : Int) ≤ 4096 := by omega
  have H := Lib.hid h
  have HC0 : Hid (CntI (w.alloc (.cells (madeCells #[.int .i64 0] s.nb) 3)) w.heap.size s 0) := Lib.hid ⟨_, heap_alloc_new w _, by simp [madeCells], fun j hj => absurd hj (by omega)⟩
  have HB0 := Lib.hid (balloc w (.cells (madeCells #[.int .i64 0] s.nb) 3))
  clear h hnb
  go_enter Try.func50, Try.ntmps50
  go_wp2
  obtain ⟨G, hG⟩ : ∃ G, G = w.heap.size := ⟨_, rfl⟩
  have HG := Lib.hid hG
  rw [← hG] at HC0 ⊢
  clear hG hmk
  go_loopw [13] (fun v wr => ∃ k : Nat, k ≤ s.nb ∧ v = .int .i64 k ∧ Hid (CntI wr G s k) ∧ Hid (Below w.heap.size w wr)) (fun v _ => s.nb - (RowKit.intOf v).toNat)
  case atStart => exact ⟨0, Nat.zero_le _, rfl, HC0, HB0⟩
  case round =>
    obtain ⟨k, hk, rfl, HC, HB⟩ := hrel
    clear HC0 HB0
    by_cases hlt : k < s.nb
    · obtain ⟨e1, e2⟩ := (H.out.below HB.out).gcells hlt
      obtain ⟨A, c, hf⟩ := H.out.form hlt
      rw [hf] at e2
      have kk : (k : Int) < (s.nb : Int) := by omega
      have k0 : (0 : Int) ≤ (k : Int) := by omega
      have HK := Lib.hid hlt
      obtain ⟨er, her⟩ : ∃ er, er = (s.bk k).er := ⟨_, rfl⟩
      obtain ⟨pl, hpl⟩ : ∃ pl, pl = (s.bk k).pg.length := ⟨_, rfl⟩
      rw [← her] at e1
      rw [← hpl] at e2
      have HER := Lib.hid her
      have HF := Lib.hid (fun W => count_any er A pl c W)
      clear hlt her hpl hf
      go_wp2_with ((go_at_call 51; with_reducible refine (HF.out _).mono ?_); rintro e w2 ⟨rfl, hb2⟩; have hb2' : Below wr.heap.size wr w2 := (balloc wr _).trans (hb2.mono (by simp)); have HC2 := Lib.hid (HC.out.below hb2'); have HB2 := Lib.hid (HB.out.trans (hb2'.mono HB.out.size)); obtain ⟨cur, h1, h2, -⟩ := HC2.out; have z1 : ∃ u, w2.cell? ⟨G, k, none⟩ = some u := ⟨cur[k]'(by rw [h2]; exact HK.out), (cell_of_row w2 G k _ 3 (0, 0) h1).trans (Array.getElem?_eq_getElem _)⟩; obtain ⟨u, z1⟩ := z1; have z2 := frozen_of_row w2 G k _ 3 h1; clear hb2 hb2' h1 h2)
      go_roundw
      case rel => exact ⟨k + 1, HK.out, by go_num, Lib.hid (by rw [HER.out]; exact HC2.out.set HK.out), Lib.hid (HB2.out.setCell (p := ⟨G, k, none⟩) (by show w.heap.size ≤ G; rw [HG.out]; exact Nat.le_refl _) _)⟩
      case measure => simp [RowKit.intOf]; have := HK.out; omega
    · have HKN : Hid (k = s.nb) := Lib.hid (by omega)
      have kk : ¬ (k : Int) < (s.nb : Int) := by omega
      go_wp2
      go_ret
      obtain ⟨cur, h1, h2, h3⟩ := HC.out
      rw [HKN.out] at h3
      refine ⟨G, rfl, ⟨cur, h1, fun j hj => ?_⟩, by rw [HG.out]; exact Nat.le_refl _, HB.out⟩
      rw [ersL_length] at hj
      rw [h3 j hj, ersL_at hj]
end
section
open Go.RowKit Go.Shelf
attribute [local go_sem] Oper.semAt_some
set_option linter.unusedVariables false
set_option maxHeartbeats 4000000
set_option maxRecDepth 100000
/-- What a round of the inner loop starts with. -/
def InAx (l0 q B n1 : Nat) (sl fv : Value) (l : List Int) (k : Nat) (a' : Act) (W : World) : Prop :=
  ∃ (hk : k < l.length), a' = { tmps := #[.func (.yield l0) #[] #[], .pointer (some ⟨q, 0, none⟩), .pointer (some ⟨B, 0, none⟩), .int .i64 (k : Int), .int .i64 l[k], sl, fv, .int .i64 (k : Int), .int .i64 l[k], undef, undef, undef, undef, undef], defers := [] }
theorem wear_gen (S : Nat → Prop) (B' l0 q : Nat) (sl : Value) (l : List Int) (J Jx : Nat → World → Prop) (W0 : World) (hB' : B' ≤ W0.heap.size) (hJ : OwnFrom W0.heap.size J) (hJx : OwnFrom W0.heap.size Jx) (hS : ∀ k, S k → k < W0.heap.size) (hsl : ∃ A n c, sl = .slice A n c)
    (hY : ∀ k (hk : k < l.length) W1, J k W1 → Ynd Try.prog l0 #[.int .i64 (k : Int), .int .i64 l[k]] W1 fun e W' => (e = .returned (.bool true) ∧ J (k + 1) W' ∧ Kd S B' W1 W') ∨ (e = .returned (.bool false) ∧ Jx (k + 1) W' ∧ KeepsFrom B' W1 W'))
    (hc : Bx1 W0 q 24 sl) (h0 : J 0 W0)
    (hin : ∀ W B B', Below W0.heap.size W0 W → Bx1 W B 24 sl → Yields Try.prog 65 #[.pointer (some ⟨B, 0, none⟩)] ev S B' (enum l) W) :
    CallsIn Fence.wide 9 Try.prog 52 #[.func (.yield l0) #[] #[], .pointer (some ⟨q, 0, none⟩)] W0 fun e W' => (∃ v, e = .returned v) ∧ (J l.length W' ∨ ∃ k, k ≤ l.length ∧ Jx k W') := by
  obtain ⟨A, n, c, rfl⟩ := hsl
  have b1 := below_alloc W0 (.cells #[.func (.yield l0) #[] #[]] 86)
  have b2 : Below W0.heap.size W0 ((W0.alloc (.cells #[.func (.yield l0) #[] #[]] 86)).alloc (.cells #[.slice A n c] 24)) := b1.alloc (by simp) _
  have x1 : Bx1 ((W0.alloc (.cells #[.func (.yield l0) #[] #[]] 86)).alloc (.cells #[.slice A n c] 24)) W0.heap.size 86 (.func (.yield l0) #[] #[]) := (Bx1.new W0 86 _).below (below_alloc _ _)
  have x2 : Bx1 ((W0.alloc (.cells #[.func (.yield l0) #[] #[]] 86)).alloc (.cells #[.slice A n c] 24)) (W0.heap.size + 1) 24 (.slice A n c) := by
    have := Bx1.new (W0.alloc (.cells #[.func (.yield l0) #[] #[]] 86)) 24 (.slice A n c)
    rwa [World.size_alloc] at this
  have hse : ((W0.alloc (.cells #[.func (.yield l0) #[] #[]] 86)).alloc (.cells #[.slice A n c] 24)).heap.size = W0.heap.size + 2 := by simp
  have hj0 : J 0 ((W0.alloc (.cells #[.func (.yield l0) #[] #[]] 86)).alloc (.cells #[.slice A n c] 24)) := hJ.alloc _ (hJ.alloc _ h0)
  have hyi := fun B' => hin _ _ B' b2 x2
  have c5 := ((hc.below b1)).cell
  have HAll := Lib.hid (All_any A n c (W0.alloc (.cells #[.func (.yield l0) #[] #[]] 86)))
  have HYI := Lib.hid hyi
  have HJ := Lib.hid hJ
  have HJX := Lib.hid hJx
  have HY := Lib.hid hY
  have HS := Lib.hid hS
  have HX1 := Lib.hid x1
  have HJ0 := Lib.hid hj0
  have HSE := Lib.hid hse
  clear hin hyi hJ hJx hY hS x1 x2 hj0 hse b1 b2 hc h0
  have f53 : Fence.wide.fn 53 := trivial
  refine callsIn_of_wp_marks Try.func52 rfl trivial ?_ rfl
  simp only [Try.ntmps52, List.size_toArray, List.length_cons, List.length_nil, Nat.reduceAdd, Nat.reduceSub, Array.replicate_succ, Array.replicate_zero, List.push_toArray, List.append_toArray, List.nil_append, List.cons_append]
  gi_wp2
  refine wpIn_wide.2 (wp_scope_straight ((wpIn_wide (n := 9)).1 (wpIn_seq (wpIn_label ?_))))
  dsimp only [Exit.then]
  gi_wp2_with (gi_at_call 53; refine (callsIn_wide.2 HAll.out).mono ?_; rintro e w' ⟨rfl, rfl⟩)
  generalize (W0.alloc (.cells #[.func (.yield l0) #[] #[]] 86)).alloc (.cells #[.slice A n c] 24) = E at *
  have hmono : ∀ {I : Nat → World → Prop}, OwnFrom W0.heap.size I → OwnFrom E.heap.size I := fun h k X Y row hs hg hr => h k X Y row hs hg (fun r e => ⟨by have := (hr r e).1; have := HSE.out; omega, (hr r e).2⟩)
  have ex0 : ∀ {W : World} {D : Nat}, E.heap.size ≤ D → W.heap[D]? = some (.deferred (some [])) → (J l.length W ∨ ∃ k, k ≤ l.length ∧ Jx k W) →
      (J l.length (W.putObj D (.deferred none)) ∨ ∃ k, k ≤ l.length ∧ Jx k (W.putObj D (.deferred none))) := fun hD hd hj => by
    have hD2 : W0.heap.size ≤ _ := Nat.le_trans (by have := HSE.out; omega) hD
    rcases hj with h | ⟨k, hk, h⟩
    · exact .inl (HJ.out.putObj _ h hD2 hd rfl)
    · exact .inr ⟨k, hk, HJX.out.putObj _ h hD2 hd rfl⟩
  refine range_list (gf := 65) rfl (enters_of Try.func65 (by kernel_rfl) rfl) (HYI.out _) (Below.refl _ _) (fun _ => rfl)
    (fun k W => J k W ∧ Bx1 W W0.heap.size 86 (.func (.yield l0) #[] #[])) (fun c k W => c = .exit 0 ∧ ∃ j, j ≤ l.length ∧ Jx j W)
    (fun k X Y row hs hg hr => ⟨hmono HJ.out _ X Y row hs.1 hg hr, own_bx _ () X Y row hs.2 hg hr⟩)
    (fun c k X Y row hs hg hr => by obtain ⟨h1, j, h2, h3⟩ := hs; exact ⟨h1, j, h2, hmono HJX.out _ X Y row h3 hg hr⟩)
    ⟨HJ0.out, HX1.out⟩
    (InAx l0 q W0.heap.size 0 (.slice A n c) (.func (.func 65) #[] #[.pointer (some ⟨W0.heap.size + 1, 0, none⟩)]) l) (fun k a' _ X Y row hs _ _ => hs) ?assign ?body ?done ?stop
  case assign =>
    intro l' k hk W K ⟨hj, h1⟩ hK
    rw [enum_length] at hk
    rw [enum_at hk]
    have hfin := hK _ W (KeepsFrom.refl _ _) (Kc.refl _ _) ⟨hj, h1⟩ ⟨hk, rfl⟩
    have HF := Lib.hid hfin
    clear hK hfin
    generalize l[k] = x at *
    gi_wp2
    exact HF.out
  case body =>
    rintro l' k hk a' W hl ⟨hj, h1⟩ ⟨hk', rfl⟩
    have y1 := h1.cell
    have hY1 := HY.out k hk' W hj
    obtain ⟨fn, tmps, assign, body, hy, hR⟩ := hY1
    have HRR := Lib.hid hR
    have HB1 := Lib.hid h1
    clear hj hR h1
    generalize l[k] = x at *
    gi_wp2
    refine (show RoundIn (Fence.wide.inRound l') 8 Try.prog l0 fn tmps assign body W _ from RoundIn.deep 8 HRR.out).mono ?_
    rintro e W3 (⟨rfl, hJ3, hk3⟩ | ⟨rfl, hJx3, hkx⟩)
    · have HF := Lib.hid (show KeepsFrom E.heap.size W W3 ∧ Kc S W W3 ∧ J (k + 1) W3 ∧ Bx1 W3 W0.heap.size 86 (.func (.yield l0) #[] #[]) from
        ⟨kf_base hk3.2 (by have := HSE.out; omega), hk3.1, hJ3, HB1.out.kc hk3.1 (fun h => by have := HS.out _ h; omega)⟩)
      clear hJ3 hk3
      gi_wp2
      exact HF.out
    · have HF := Lib.hid (show KeepsFrom E.heap.size W W3 from kf_base hkx (by have := HSE.out; omega))
      have HJ3 := Lib.hid hJx3
      clear hJx3
      gi_wp2
      exact ⟨HF.out, rfl, _, hk', HJ3.out⟩
  case done =>
    intro D W hD ⟨hj, _⟩ hd
    rw [enum_length] at hj
    have HE := Lib.hid (ex0 hD hd (.inl hj))
    gi_wp2
    refine ⟨by simp, .inl ⟨_, _, rfl, run_takeDeferred hd, ?_⟩⟩
    exact ⟨_, results_none rfl _ _ _, ⟨_, rfl⟩, HE.out⟩
  case stop =>
    rintro D c k W hD hk ⟨rfl, j, hj, hjx⟩ hd
    have HE := Lib.hid (ex0 hD hd (.inr ⟨j, hj, hjx⟩))
    gi_wp2
    refine ⟨by simp, .inl ⟨_, _, rfl, run_takeDeferred hd, ?_⟩⟩
    exact ⟨_, results_none rfl _ _ _, ⟨_, rfl⟩, HE.out⟩
/-- The iterator of Wear yields the counts. -/
theorem wear_yields (S : Nat → Prop) (B' q G cap : Nat) (l : List Int) (w : World) (hl : l.length ≤ 4096) (hgS : ¬ S G) (hS : ∀ k, S k → k < w.heap.size) (hc : Bx1 w q 24 (.slice (some ⟨G, 0, none⟩) l.length cap)) (hr : RowI w G l) :
    Yields Try.prog 52 #[.pointer (some ⟨q, 0, none⟩)] ev S B' (enum l) w := fun l0 J Jx W hW hB' hJ hJx hY h0 => by
  have hy : ∀ k (hk : k < l.length) W1, J k W1 → Ynd Try.prog l0 #[.int .i64 (k : Int), .int .i64 l[k]] W1 fun e W' => (e = .returned (.bool true) ∧ J (k + 1) W' ∧ Kd S B' W1 W') ∨ (e = .returned (.bool false) ∧ Jx (k + 1) W' ∧ KeepsFrom B' W1 W') := fun k hk W1 h1 => by
    have := hY k (by rw [enum_length]; exact hk) W1 h1
    rw [enum_at hk] at this
    exact this
  have := wear_gen S B' l0 q _ l J Jx W hB' hJ hJx (fun k hk => Nat.lt_of_lt_of_le (hS k hk) hW.size) ⟨_, _, _, rfl⟩ hy (hc.below hW) h0
    (fun W2 B B2 hb hc2 => all1_yields S B2 B G cap l W2 hl hgS hc2 ((hr.below hW).below hb))
  rw [enum_length]
  exact this
/-- What Wear leaves: an iterator that yields the counts. -/
def WrP (w : World) (l : List Int) (e : Ending) (w' : World) : Prop :=
  ∃ q G, e = .returned (.func (.func 52) #[] #[.pointer (some ⟨q, 0, none⟩)]) ∧ Bx1 w' q 24 (.slice (some ⟨G, 0, none⟩) l.length l.length) ∧ RowI w' G l ∧ w.heap.size ≤ q ∧ w.heap.size ≤ G ∧ Below w.heap.size w w'
theorem Wear_any {w : World} {base b g m : Nat} {V : Nat → Value} {s : Dev} (h : Dv w base b g m V s) (hg : Gd s) : Calls Try.prog 20 #[.pointer (some ⟨b, 0, none⟩)] w (WrP w (ersL s)) := by
  have b0 := balloc w (.cells #[.slice none 0 0] 24)
  have c4 := (h.below b0).c4
  have HM := Lib.hid (missing_not b g s.nb (w.alloc (.cells #[.slice none 0 0] 24)) c4)
  have HC := Lib.hid (counts_any (h.below b0) hg)
  have HB0 := Lib.hid b0
  have x0 := Bx1.new w 24 (.slice none 0 0)
  have HX0 := Lib.hid x0
  clear h hg b0 x0
  go_enter Try.func20, Try.ntmps20
  go_wp2_with (first
    | ((go_at_call 46; with_reducible refine HM.out.mono ?_); rintro e w' ⟨rfl, rfl⟩)
    | ((go_at_call 50; with_reducible refine HC.out.mono ?_); rintro e w2 ⟨G, rfl, hrow, hG, hb2⟩; have HX2 := Lib.hid (HX0.out.below hb2); have x2 := HX2.out.cell; have f2 := HX2.out.free; have HR2 := Lib.hid hrow; have HG2 := Lib.hid hG; have HB2 := Lib.hid (HB0.out.trans (hb2.mono HB0.out.size)); clear hrow hG hb2))
  go_ret
  have hGn : G ≠ w.heap.size := by have := HG2.out; simp at this; omega
  refine ⟨w.heap.size, G, rfl, ?_, ?_, Nat.le_refl _, by have := HG2.out; simp at this; omega, HB2.out.setCell (p := ⟨w.heap.size, 0, none⟩) (Nat.le_refl _) _⟩
  · rw [ersL_length]
    exact heap_setCell_same w2 w.heap.size 0 _ 24 _ HX2.out
  · obtain ⟨cur, h1, h2⟩ := HR2.out
    exact ⟨cur, (heap_setCell_other w2 ⟨w.heap.size, 0, none⟩ G _ hGn).trans h1, h2⟩
end
end Go.Proofs.Ytddejcoagcaidaa
