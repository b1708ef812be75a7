/- A range over a function whose iterator may itself range over a function: the iterator yields a known list; the law of the loop over it. Conditions stand in each theorem. -/
import Derived.RangeFuncNested
import Derived.RangeFuncBound
import Derived.RangeFuncCalls
import Derived.RangeFuncLeaves
import Derived.RangeFuncFrom
import Derived.RangeFuncWrites
import Derived.Shelf.Abstract
import Derived.Shelf.RegionOpen
import Derived.OwnWalkIn
import Derived.TacticsInMore
import Derived.LoopNIn
import Derived.LoopIn
import Derived.Maps.OwnIn
import Derived.Test.YtngaifokkkmmcaaG
namespace Go.Proofs.Ytngaifokkkmmcaa
open Go.RowKit Go.Shelf
attribute [local go_sem] Oper.semAt_some
set_option linter.unusedVariables false
set_option maxHeartbeats 1000000
set_option maxRecDepth 100000
theorem RoundIn.deep {m : Nat} (m' : Nat) {P : Program} {l : Nat} {f : FuncId} {tmps : Array Value} {assign body : Code} {w : World} {R : Ending → World → Prop}
    (h : RoundIn Fence.wide m P l f tmps assign body w R) : RoundIn Fence.wide m' P l f tmps assign body w R := ⟨h.1, fun c cs _ => h.2 c cs (fun d hd => by cases hd)⟩
/-- A round at element x ends as R says. -/
abbrev Ynd (P : Program) (l : Nat) (args : Array Value) (W : World) (R : Ending → World → Prop) : Prop := YieldAt Fence.wide 9 P l args W R
/-- Every block of cells outside of S is as it was. -/
def Kc (S : Nat → Prop) (W W' : World) : Prop := W.heap.size ≤ W'.heap.size ∧ ∀ k o, W.heap[k]? = some o → o.isCells = true → ¬ S k → W'.heap[k]? = some o
section
variable {S : Nat → Prop} {A B C W W' : World}
theorem Kc.refl (S : Nat → Prop) (W : World) : Kc S W W := ⟨Nat.le_refl _, fun _ _ h _ _ => h⟩
theorem Kc.trans (h : Kc S A B) (k : Kc S B C) : Kc S A C := ⟨Nat.le_trans h.1 k.1, fun i o hi ho hS => k.2 i o (h.2 i o hi ho hS) ho hS⟩
theorem Kc.putObj (S : Nat → Prop) (W : World) (l : Nat) (o o' : Obj) (h : W.heap[l]? = some o) (hc : o.isCells = false) : Kc S W (W.putObj l o') :=
  ⟨by simp, fun k o2 hk ho hS => (World.putObj_heap_other (fun e => by subst e; rw [h] at hk; cases hk; rw [hc] at ho; cases ho)).trans hk⟩
theorem Kc.of_below (h : Below W.heap.size W W') : Kc S W W' := ⟨h.size, fun k o hk _ _ => (h.block k (Array.getElem?_eq_some_iff.1 hk).1).trans hk⟩
theorem Kc.of_chg (h : Chg S W W') : Kc S W W' := ⟨h.size, fun k o hk _ hS => (h.block k (Array.getElem?_eq_some_iff.1 hk).1 hS).trans hk⟩
end
theorem kf_base {B B' : Nat} {W W' : World} (h : KeepsFrom B W W') (hB : B ≤ B') : KeepsFrom B' W W' := ⟨h.size, fun k o hk => h.same k o (Nat.le_trans hB hk)⟩
theorem kf_low {B l : Nat} (W : World) (o' : Obj) (h : l < B) : KeepsFrom B W (W.putObj l o') := ⟨by simp, fun k o hk ho _ => (World.putObj_heap_other (by omega)).trans ho⟩
/-- What a round keeps: the cells outside of S, and whatever has no cells and lies from B on. -/
def Kd (S : Nat → Prop) (B : Nat) (W W' : World) : Prop := Kc S W W' ∧ KeepsFrom B W W'
/-- The iterator g, with what it has captured, yields the list L, one after the other, or a beginning of it; a round keeps what Kd says. The user's state J abides new blocks, and changes of blocks without cells that are newer than the call. -/
def Yields {α : Type} (P : Program) (g : Nat) (lb : Array Value) (encs : α → Array Value) (S : Nat → Prop) (B : Nat) (L : List α) (w : World) : Prop :=
  ∀ (l : Nat) (J Jx : Nat → World → Prop) (W : World), Below w.heap.size w W → B ≤ W.heap.size → OwnFrom W.heap.size J → OwnFrom W.heap.size Jx →
    (∀ k (hk : k < L.length) W1, J k W1 → Ynd P l (encs L[k]) W1 fun e W' => (e = .returned (.bool true) ∧ J (k + 1) W' ∧ Kd S B W1 W') ∨ (e = .returned (.bool false) ∧ Jx (k + 1) W' ∧ KeepsFrom B W1 W')) →
    J 0 W → CallsIn Fence.wide 9 P g (#[.func (.yield l) #[] #[]] ++ lb) W fun e W' => (∃ v, e = .returned v) ∧ (J L.length W' ∨ ∃ k, k ≤ L.length ∧ Jx k W')
/-- How the body of a round may be left. -/
def outPost (B : Nat) (S : Nat → Prop) (I : World → Prop) (Ix : Code → World → Prop) (W : World) : Exit → Act → World → Prop
  | .normal, _, W' => KeepsFrom B W W' ∧ Kc S W W' ∧ I W'
  | .ret, _, W' => KeepsFrom B W W' ∧ Ix .ret W'
  | .exit i, _, W' => KeepsFrom B W W' ∧ Ix (.exit i) W'
  | .goto t, _, W' => KeepsFrom B W W' ∧ Ix (.goto t) W'
  | .panic _, _, _ => False
  | .outgrown, _, _ => False
section
variable {P : Program} {w : World}
theorem two_laid (w : World) (o1 o2 : Obj) : ((w.alloc o1).alloc o2).heap[w.heap.size]? = some o1 ∧ ((w.alloc o1).alloc o2).heap[w.heap.size + 1]? = some o2 ∧ ((w.alloc o1).alloc o2).heap.size = w.heap.size + 2 ∧ Below w.heap.size w ((w.alloc o1).alloc o2) := by
  have h := World.alloc_heap_new (w.alloc o1) o2
  rw [World.size_alloc] at h
  exact ⟨(Below.heap_alloc _ _ _ (by simp)).trans (World.alloc_heap_new w o1), h, by simp, ((Below.refl _ w).alloc (Nat.le_refl _) _).alloc (by simp) _⟩
theorem range_list {α : Type} {n : Nat} {g : Operand} {ps : Array Tmp} {assign body : Code} {Q : Exit → Act → World → Prop} {a : Act} {gf : Nat} {lb : Array Value}
    (hg : a.eval g = .func (.func gf) #[] lb) (eg : ∀ args w, (callFunc gf args).run P w = .ok (.enter gf args) w)
    {encs : α → Array Value} {S : Nat → Prop} {L : List α} {w0 : World} (hy : Yields P gf lb encs S (w.heap.size + 2) L w0) (hb0 : Below w0.heap.size w0 w) (hps : ∀ x, (encs x).size = ps.size)
    (I : Nat → World → Prop) (Ix : Code → Nat → World → Prop) (hI : OwnFrom w.heap.size I) (hIx : ∀ c, OwnFrom w.heap.size (Ix c)) (h0 : I 0 w)
    (Ax : Nat → Act → World → Prop) (hAx : ∀ k a', OwnFrom w.heap.size (fun (_ : Unit) W => Ax k a' W))
    (hassign : ∀ (l k : Nat) (hk : k < L.length) (W : World) (K : Act → World → Prop), I k W → (∀ a' W', KeepsFrom w.heap.size W W' → Kc S W W' → I k W' → Ax k a' W' → K a' W') →
      assign.wpIn (Fence.wide.inRound l) 9 P (Exit.then K (fun _ _ _ => False)) { tmps := (ps.zip (encs L[k])).foldl (fun t (p, v) => t.setIfInBounds p v) a.tmps, defers := [] } W)
    (hbody : ∀ (l k : Nat) (hk : k < L.length) (a' : Act) (W : World), w.heap.size ≤ l → I k W → Ax k a' W → body.wpIn (Fence.wide.inRound l) 9 P (outPost w.heap.size S (I (k + 1)) (fun c => Ix c (k + 1)) W) a' W)
    (hdone : ∀ (D : Nat) (W : World), w.heap.size ≤ D → I L.length W → W.heap[D]? = some (.deferred (some [])) → Q .normal { a with defers := { target := .collected D, args := #[] } :: a.defers } W)
    (hstop : ∀ (D : Nat) (c : Code) (k : Nat) (W : World), w.heap.size ≤ D → k ≤ L.length → Ix c k W → W.heap[D]? = some (.deferred (some [])) → c.wpIn Fence.wide n P Q { a with defers := { target := .collected D, args := #[] } :: a.defers } W) :
    (Code.rangeFunc g ps assign body).wpIn Fence.wide n P Q a w := by
  refine wpIn_rangeFunc fun fn hfn => ?_
  -- the record of the loop, and the world in which the iterator is called
  obtain ⟨R, hR⟩ : ∃ R : LoopState → Option Code → Loop, R = fun st pe => { state := st, pending := pe, fn, tmps := a.tmps, params := ps, assign, body, defers := w.heap.size } := ⟨_, rfl⟩
  obtain ⟨hD0, hL0, hs0, hbe⟩ := two_laid w (.deferred (some [])) (.loop (R .ready none))
  have hI0 : I 0 ((w.alloc (.deferred (some []))).alloc (.loop (R .ready none))) := hI.alloc _ (hI.alloc _ h0)
  have hen : (Instr.enterLoop fn a.tmps ps assign body Fence.wide.round).run P w = .ok (w.heap.size + 1, [{ target := .collected w.heap.size, args := #[] }]) ((w.alloc (.deferred (some []))).alloc (.loop (R .ready none))) := by
    rw [hR]; exact run_enterLoop_outer _ _ _ _ _
  generalize (w.alloc (.deferred (some []))).alloc (.loop (R .ready none)) = W1 at *
  refine ⟨w.heap.size + 1, _, W1, { target := .fn (.func gf) lb, args := #[.func (.yield (w.heap.size + 1)) #[] #[]] }, W1, gf, #[.func (.yield (w.heap.size + 1)) #[] #[]] ++ lb, W1, hen, by simp only [resolve, hg]; simp [go_sem], fun f' hf' => trivial, by simp [invoke, go_sem, eg], (fun h => by cases h), ?_⟩
  have hnew : ∀ {A : World} {row : Option Nat}, (∀ r, row = some r → W1.heap.size ≤ r ∧ ∃ o : Obj, A.heap[r]? = some o ∧ o.isCells = false) → (∀ r, row = some r → w.heap.size ≤ r ∧ ∃ o : Obj, A.heap[r]? = some o ∧ o.isCells = false) :=
    fun hr r e => ⟨by have := (hr r e).1; omega, (hr r e).2⟩
  have hkeep : ∀ {A B : World} {row : Option Nat} {t : Nat} {o : Obj}, A.grownBy B row → (∀ r, row = some r → W1.heap.size ≤ r ∧ ∃ o : Obj, A.heap[r]? = some o ∧ o.isCells = false) → t < w.heap.size + 2 → A.heap[t]? = some o → B.heap[t]? = some o :=
    fun hgr hr ht ho => (hgr.block _ (Array.getElem?_eq_some_iff.1 ho).1 (fun e => by have := (hr _ e.symm).1; omega)).trans ho
  have hcall := hy (w.heap.size + 1) (fun k W => I k W ∧ W.heap[w.heap.size + 1]? = some (.loop (R .ready none)) ∧ W.heap[w.heap.size]? = some (.deferred (some [])))
    (fun k W => ∃ c, Ix c k W ∧ W.heap[w.heap.size + 1]? = some (.loop (R .done (some c))) ∧ W.heap[w.heap.size]? = some (.deferred (some []))) W1 (hb0.trans (hbe.mono hb0.size)) (by omega)
    (fun k A B row hs hgr hr => ⟨hI k A B row hs.1 hgr (hnew hr), hkeep hgr hr (by omega) hs.2.1, hkeep hgr hr (by omega) hs.2.2⟩)
    (fun k A B row ⟨c, h1, h2, h3⟩ hgr hr => ⟨c, hIx c k A B row h1 hgr (hnew hr), hkeep hgr hr (by omega) h2, hkeep hgr hr (by omega) h3⟩)
    ?_ ⟨hI0, hL0, hD0⟩
  · refine ((callsIn_wide.2 (callsIn_wide.1 hcall) : CallsIn Fence.wide (n - 1) P gf _ W1 _)).mono ?_
    rintro e W2 ⟨⟨v, rfl⟩, (⟨hi, hl, hd⟩ | ⟨k, hk, c, hi, hl, hd⟩)⟩
    · have he := run_endLoop (P := P) hl (by rw [hR]; simp)
      exact ⟨none, _, by rw [hR] at he; exact he, hdone _ _ (Nat.le_refl _) (hI.putObj _ hi (by omega) hl rfl) ((World.putObj_heap_other (by omega)).trans hd)⟩
    · have he := run_endLoop (P := P) hl (by rw [hR]; simp)
      exact ⟨some c, _, by rw [hR] at he; exact he, hstop _ c k _ (Nat.le_refl _) hk ((hIx c).putObj _ hi (by omega) hl rfl) ((World.putObj_heap_other (by omega)).trans hd)⟩
  · -- one round
    rintro k hk W ⟨hi, hl, hd⟩
    have hyl := run_yield (P := P) (args := encs L[k]) hl (by rw [hR]; exact hps _)
    rw [hR] at hyl
    refine ⟨fn, _, assign, body, hyl, roundIn_of_wpIn hfn (hassign _ k hk W _ hi ?_)⟩
    intro a' Wa hka hkp hia hax
    have hla := hka.same _ _ (by omega) hl rfl
    have hda := hka.same _ _ (Nat.le_refl _) hd rfl
    have hlt := (Array.getElem?_eq_some_iff.1 hla).1
    refine ⟨_, run_beginRound hla (by rw [hR]), ?_⟩
    have hl2 : (Wa.putObj (w.heap.size + 1) (.loop { R .ready none with state := .busy })).heap[w.heap.size + 1]? = some (.loop { R .ready none with state := .busy }) := World.putObj_heap_same hlt
    have hd2 : (Wa.putObj (w.heap.size + 1) (.loop { R .ready none with state := .busy })).heap[w.heap.size]? = some (.deferred (some [])) := (World.putObj_heap_other (by omega)).trans hda
    have hk2 : Kd S (w.heap.size + 2) Wa (Wa.putObj (w.heap.size + 1) (.loop { R .ready none with state := .busy })) := ⟨Kc.putObj S _ _ _ _ hla rfl, kf_low _ _ (by omega)⟩
    have hb := hbody (w.heap.size + 1) k hk a' (Wa.putObj (w.heap.size + 1) (.loop { R .ready none with state := .busy })) (by omega) (hI.putObj _ hia (by omega) hla rfl) ((hAx k a').putObj (s := ()) _ hax (by omega) hla rfl)
    generalize Wa.putObj (w.heap.size + 1) (.loop { R .ready none with state := .busy }) = W3 at *
    have leave : ∀ (jump : Option Code) (W4 : World), KeepsFrom w.heap.size W3 W4 →
        (Instr.endRound (w.heap.size + 1) jump).run P W4 = .ok (.bool jump.isNone) (W4.putObj (w.heap.size + 1) (.loop (R (if jump.isNone then .ready else .done) jump))) ∧ W4.heap[w.heap.size + 1]? = some (.loop { R .ready none with state := .busy }) ∧
        (W4.putObj (w.heap.size + 1) (.loop (R (if jump.isNone then .ready else .done) jump))).heap[w.heap.size + 1]? = some (.loop (R (if jump.isNone then .ready else .done) jump)) ∧
        (W4.putObj (w.heap.size + 1) (.loop (R (if jump.isNone then .ready else .done) jump))).heap[w.heap.size]? = some (.deferred (some [])) := fun jump W4 hk4 => by
      have hl4 := hk4.same _ _ (by omega) hl2 rfl
      have he := run_endRound (P := P) jump hl4
      rw [hR] at he ⊢
      rw [hR] at hl4
      exact ⟨he, hl4, World.putObj_heap_same (Array.getElem?_eq_some_iff.1 hl4).1, (World.putObj_heap_other (by omega)).trans (hk4.same _ _ (Nat.le_refl _) hd2 rfl)⟩
    refine wpIn_mono hb ?_
    rintro e a4 W4 hp
    cases e with
    | normal =>
      obtain ⟨hk4, hkp4, hi4⟩ := hp
      obtain ⟨q1, q2, q3, q4⟩ := leave none W4 hk4
      exact ⟨_, _, q1, .inl ⟨rfl, ⟨hI.putObj _ hi4 (by omega) q2 rfl, q3, q4⟩, ⟨hkp.trans ((hk2.1.trans hkp4).trans (Kc.putObj S _ _ _ _ q2 rfl)), (kf_base hka (by omega)).trans ((hk2.2.trans (kf_base hk4 (by omega))).trans (kf_low _ _ (by omega)))⟩⟩⟩
    | ret =>
      obtain ⟨hk4, hi4⟩ := hp
      obtain ⟨q1, q2, q3, q4⟩ := leave (some .ret) W4 hk4
      exact ⟨_, _, q1, .inr ⟨rfl, ⟨.ret, (hIx _).putObj _ hi4 (by omega) q2 rfl, q3, q4⟩, (kf_base hka (by omega)).trans ((hk2.2.trans (kf_base hk4 (by omega))).trans (kf_low _ _ (by omega)))⟩⟩
    | exit i =>
      obtain ⟨hk4, hi4⟩ := hp
      obtain ⟨q1, q2, q3, q4⟩ := leave (some (.exit i)) W4 hk4
      exact ⟨_, _, q1, .inr ⟨rfl, ⟨.exit i, (hIx _).putObj _ hi4 (by omega) q2 rfl, q3, q4⟩, (kf_base hka (by omega)).trans ((hk2.2.trans (kf_base hk4 (by omega))).trans (kf_low _ _ (by omega)))⟩⟩
    | goto t =>
      obtain ⟨hk4, hi4⟩ := hp
      obtain ⟨q1, q2, q3, q4⟩ := leave (some (.goto t)) W4 hk4
      exact ⟨_, _, q1, .inr ⟨rfl, ⟨.goto t, (hIx _).putObj _ hi4 (by omega) q2 rfl, q3, q4⟩, (kf_base hka (by omega)).trans ((hk2.2.trans (kf_base hk4 (by omega))).trans (kf_low _ _ (by omega)))⟩⟩
    | panic c => exact hp.elim
    | outgrown => exact hp.elim
end
section
variable {S : Nat → Prop} {A B C W W' : World}
/-- A box of one cell. -/
def Bx1 (W : World) (q : Nat) (t : TypeId) (v : Value) : Prop := W.heap[q]? = some (.cells #[v] t (0, 0))
theorem Bx1.cell {q : Nat} {t : TypeId} {v : Value} (h : Bx1 W q t v) : W.cell? ⟨q, 0, none⟩ = some v := by rw [cell_of_row W q 0 _ t (0, 0) h]; rfl
theorem Bx1.free {q : Nat} {t : TypeId} {v : Value} (h : Bx1 W q t v) : W.frozen? ⟨q, 0, none⟩ = false := frozen_of_row W q 0 _ t h
theorem Bx1.lt {q : Nat} {t : TypeId} {v : Value} (h : Bx1 W q t v) : q < W.heap.size := (Array.getElem?_eq_some_iff.1 h).1
theorem Bx1.kc {q : Nat} {t : TypeId} {v : Value} (hb : Bx1 W q t v) (h : Kc S W W') (hS : ¬ S q) : Bx1 W' q t v := h.2 q _ hb rfl hS
theorem Bx1.below {q : Nat} {t : TypeId} {v : Value} (hb : Bx1 W q t v) (h : Below W.heap.size W W') : Bx1 W' q t v := (h.block q hb.lt).trans hb
theorem Bx1.new (W : World) (t : TypeId) (v : Value) : Bx1 (W.alloc (.cells #[v] t)) W.heap.size t v := heap_alloc_new W _
theorem Bx1.put {q : Nat} {t : TypeId} {v : Value} (hb : Bx1 W q t v) {l : Nat} {o o' : Obj} (h : W.heap[l]? = some o) (hc : o.isCells = false) : Bx1 (W.putObj l o') q t v :=
  (Kc.putObj (fun _ => False) W l o o' h hc).2 q _ hb rfl (fun h => h)
theorem own_bx {β : Type} {q : Nat} {t : TypeId} {v : Value} (B : Nat) : OwnFrom B (fun (_ : β) W => Bx1 W q t v) := fun k X Y row hs hg hr => by
  refine (hg.block q hs.lt (fun e => ?_)).trans hs
  obtain ⟨o, ho, hc⟩ := (hr q e.symm).2
  rw [show X.heap[q]? = _ from hs] at ho; cases ho; cases hc
end
def OkB (w : World) (e : Ending) (w' : World) : Prop := e = .returned (.bool true) ∧ Below w.heap.size w w'
/-- The mark of a loop over a function, whose block is D. -/
def mrk (D : Nat) : Deferred := { target := .collected D, args := #[] }
/-- The blocks of the marks: new ones, each open and empty. -/
def Marks (n0 : Nat) (Ds : List Nat) (W : World) : Prop := Ds.Nodup ∧ ∀ D ∈ Ds, n0 ≤ D ∧ W.heap[D]? = some (.deferred (some []))
theorem Marks.nil (n0 : Nat) (W : World) : Marks n0 [] W := ⟨List.nodup_nil, fun D h => by cases h⟩
theorem Marks.lt {n0 : Nat} {Ds : List Nat} {W : World} (h : Marks n0 Ds W) {D : Nat} (hD : D ∈ Ds) : D < W.heap.size := (Array.getElem?_eq_some_iff.1 (h.2 D hD).2).1
theorem Marks.keep {n0 : Nat} {Ds : List Nat} {W W' : World} (h : Marks n0 Ds W) (hk : ∀ D ∈ Ds, W'.heap[D]? = W.heap[D]?) : Marks n0 Ds W' := ⟨h.1, fun D hD => ⟨(h.2 D hD).1, (hk D hD).trans (h.2 D hD).2⟩⟩
theorem Marks.below {n0 : Nat} {Ds : List Nat} {W W' : World} (h : Marks n0 Ds W) (hb : Below W.heap.size W W') : Marks n0 Ds W' := h.keep fun D hD => hb.block D (h.lt hD)
theorem Marks.chg {n0 : Nat} {Ds : List Nat} {W W' : World} {S : Nat → Prop} (h : Marks n0 Ds W) (hc : Chg S W W') (hS : ∀ k, S k → ∀ o, W.heap[k]? = some o → o.isCells = true) : Marks n0 Ds W' := h.keep fun D hD => hc.block D (h.lt hD) fun hs => by
  have := hS D hs _ (h.2 D hD).2
  cases this
theorem Marks.cons {n0 n1 : Nat} {Ds : List Nat} {W : World} {D : Nat} (h : Marks n0 Ds W) (hn : n0 ≤ n1) (hD : n1 ≤ D) (hlt : ∀ k ∈ Ds, k < n1) (hd : W.heap[D]? = some (.deferred (some []))) : Marks n0 (D :: Ds) W :=
  ⟨List.nodup_cons.2 ⟨fun hm => by have := hlt D hm; omega, h.1⟩, fun k hk => by
    rcases List.mem_cons.1 hk with rfl | hk
    · exact ⟨by omega, hd⟩
    · exact h.2 k hk⟩
theorem own_marks {β : Type} {n0 B : Nat} {Ds : List Nat} (hB : ∀ D ∈ Ds, D < B) : OwnFrom B (fun (_ : β) W => Marks n0 Ds W) := fun k X Y row hs hg hr =>
  hs.keep fun D hD => hg.block D (hs.lt hD) fun e => by have := (hr D e.symm).1; have := hB D hD; omega
/-- The world in which the marks' blocks are shut. -/
theorem leaves_marks {n n0 : Nat} {P : Program} {fn : Func} {tmps : Array Value} {R : Ending → World → Prop} : ∀ (Ds : List Nat) (W : World), Marks n0 Ds W →
    (∀ W', W'.heap.size = W.heap.size → W'.os = W.os → W'.tape = W.tape → W'.output = W.output → (∀ k, (n0 ≤ k → ∃ o, W.heap[k]? = some o ∧ o.isCells = true) → W'.heap[k]? = W.heap[k]?) → ∃ v, (results fn tmps).run P W' = .ok v W' ∧ R (.returned v) W') →
    LeavesInM Fence.wide n P fn tmps R (Ds.map mrk) .returning W
  | [], W, _, h => h W rfl rfl rfl rfl fun _ _ => rfl
  | D :: Ds, W, hm, h => by
    refine ⟨by simp, .inl ⟨D, _, rfl, run_takeDeferred (hm.2 D (by simp)).2, ?_⟩⟩
    have hnd := List.nodup_cons.1 hm.1
    refine leaves_marks (n0 := n0) Ds _ ⟨hnd.2, fun k hk => ⟨(hm.2 k (List.mem_cons_of_mem _ hk)).1, (World.putObj_heap_other (fun e => by subst e; exact hnd.1 hk)).trans (hm.2 k (List.mem_cons_of_mem _ hk)).2⟩⟩ fun W' h1 h2 h3 h4 h5 => h W' (by simpa using h1) h2 h3 h4 fun k hk => ?_
    have hkD : k ≠ D := by
      rintro rfl
      obtain ⟨o, ho, hc⟩ := hk (hm.2 k (by simp)).1
      rw [(hm.2 k (by simp)).2] at ho
      cases ho; cases hc
    exact (h5 k (fun hn => by
      obtain ⟨o, ho, hc⟩ := hk hn
      exact ⟨o, (World.putObj_heap_other hkD).trans ho, hc⟩)).trans (World.putObj_heap_other hkD)
/-- The end of a law with a variable for its result, behind marks. -/
theorem law_end {n : Nat} {P : Program} {fn : Func} {tmps : Array Value} {w W : World} {q : Nat} {Ds : List Nat} (hm : Marks w.heap.size Ds W) (hb : Below w.heap.size w W) (hq : Bx1 W q 4 (.bool true))
    (hres : ∀ W', W'.cell? ⟨q, 0, none⟩ = some (.bool true) → (results fn tmps).run P W' = .ok (.bool true) W') : LeavesInM Fence.wide n P fn tmps (OkB w) (Ds.map mrk) .returning W :=
  leaves_marks Ds W hm fun W' h1 h2 h3 h4 h5 => ⟨.bool true, hres W' (by
    have hx : W'.heap[q]? = W.heap[q]? := h5 q fun _ => ⟨_, hq, rfl⟩
    exact Bx1.cell (W := W') (t := 4) (v := .bool true) (hx.trans hq)), rfl, ⟨h2.trans hb.os, h3.trans hb.tape, h4.trans hb.output, by have := hb.size; omega, fun k hk => (h5 k fun hn => by omega).trans (hb.block k hk)⟩⟩
/-- The same, where the variable for the result is written last. -/
theorem law_true {n : Nat} {P : Program} {fn : Func} {tmps : Array Value} {w W : World} {q : Nat} {Ds : List Nat} {v0 : Value} (hm : Marks w.heap.size Ds W) (hb : Below w.heap.size w W) (hq : Bx1 W q 4 v0) (hqw : w.heap.size ≤ q)
    (hres : ∀ W', W'.cell? ⟨q, 0, none⟩ = some (.bool true) → (results fn tmps).run P W' = .ok (.bool true) W') : LeavesInM Fence.wide n P fn tmps (OkB w) (Ds.map mrk) .returning (W.setCell ⟨q, 0, none⟩ (.bool true)) :=
  law_end (q := q) (hm.chg (S := (· = q)) ((Chg.refl (· = q) W).setCell rfl _) fun k hk o ho => by subst hk; rw [show W.heap[k]? = _ from hq] at ho; cases ho; rfl) (hb.setCell hqw _) (heap_setCell_same W q 0 _ 4 _ hq) hres
end Go.Proofs.Ytngaifokkkmmcaa
