/- A range over a function whose rounds, or whose iterator, may raise an error. Conditions stand in each theorem. -/
import Derived.Test.YtngaifokkkmmcaaNA
namespace Go.Proofs.Ytngaifokkkmmcaa
open Go.RowKit Go.Shelf
attribute [local go_sem] Oper.semAt_some
set_option linter.unusedVariables false
set_option maxHeartbeats 1000000
set_option maxRecDepth 100000
section
variable {F : Fence} {n : Nat} {P : Program}
/-- What is asked at a round's end, a raised error let in. -/
def roundPostX (P : Program) (l : Nat) (R : Ending → World → Prop) : Exit → Act → World → Prop
  | .normal, _, w => ∃ v w', (Instr.endRound l none).run P w = .ok v w' ∧ R (.returned v) w'
  | .panic chain, a, w => a.defers = [] ∧ R (.panicked chain) w
  | _, _, _ => False
theorem roundIn_of_wpInX {l : Nat} {f : FuncId} {fn : Func} {tmps : Array Value} {assign body : Code} {w : World} {R : Ending → World → Prop} (hF : F.fn f) (hf : P.funcs[f]? = some fn)
    (h : assign.wpIn (F.inRound l) n P (Exit.then (fun a₁ w₁ => ∃ w₂, (Instr.beginRound l).run P w₁ = .ok () w₂ ∧ body.wpIn (F.inRound l) n P (roundPostX P l R) a₁ w₂) (fun _ _ _ => False))
      { tmps := tmps, defers := [] } w) :
    RoundIn F n P l f tmps assign body w R := by
  refine ⟨hF, fun c cs hr => ?_⟩
  let b : Frame := { (default : Frame) with fn := f, kind := .normal, roundOf := some l }
  have hb0 : Frame.round l f tmps assign body .normal = b.atR { tmps := tmps, defers := [] } [.code assign, .beginRound, .code body] := by
    simp [Frame.round, Frame.atR, b]
  have hr' : (F.inRound l).room ((c :: cs).length + 1 + n) := hr
  have hF' : (F.inRound l).fn b.fn := hF
  obtain ⟨e, a₁, w₁, hq, harr⟩ := h b [.beginRound, .code body] (c :: cs) rfl hF' hr'
  rw [← hb0] at harr
  cases e with
  | normal =>
    obtain ⟨w₂, hbr, hbody⟩ := hq
    have s1 : StepsIn (Machine.fenced P (F.inRound l)) P (lone (b.atR a₁ [.beginRound, .code body]) (c :: cs) w₁) (lone (b.atR a₁ [.code body]) (c :: cs) w₂) :=
      .one (fenced_calm (fr := b.atR a₁ [.beginRound, .code body]) hF' hr' rfl) (stepR_beginRound rfl hbr)
    obtain ⟨e₂, a₂, w₃, hq₂, harr₂⟩ := hbody b [] (c :: cs) rfl hF' hr'
    cases e₂ with
    | normal =>
      obtain ⟨v, w₄, hend, hR⟩ := hq₂
      exact ⟨.returned v, w₄, hR, (StepsIn.trans harr s1).trans (StepsIn.trans harr₂ (.one (fenced_calm (fr := b.atR a₂ []) hF' hr' rfl) (stepR_round_end rfl rfl hend)))⟩
    | panic chain =>
      obtain ⟨hd, hR⟩ := hq₂
      obtain ⟨todo, hs⟩ := harr₂
      have hleave : Frame.leaving P { b.atR a₂ todo with mode := .panicking chain } w₃ (.panicked chain) := ⟨rfl, hd, fn, hf⟩
      exact ⟨.panicked chain, w₃, hR, (StepsIn.trans harr s1).trans (StepsIn.trans hs (.one (fenced_leaving (n := n) hF' hr' hleave) (step_leave_panicked hleave)))⟩
    | ret => exact hq₂.elim
    | exit id => exact hq₂.elim
    | goto t => exact hq₂.elim
    | outgrown => exact hq₂.elim
  | exit id => exact hq.elim
  | goto t => exact hq.elim
  | ret => exact hq.elim
  | panic chain => exact hq.elim
  | outgrown => exact hq.elim
end
/-- The walk of a part of the body of the function f0, outside of rounds. -/
def wpF (f0 : FuncId) (P : Program) (c : Code) (Q : Exit → Act → World → Prop) (a : Act) (w : World) : Prop :=
  ∀ (b : Frame) (k : List Item) (cs : List Frame), b.roundOf = none → b.fn = f0 →
    ∃ e a' w', Q e a' w' ∧ ArrivesIn (Machine.fenced P Fence.wide) P (lone (b.atR a (.code c :: k)) cs w) b k cs e a' w'
section
variable {f0 : FuncId} {P : Program} {Q : Exit → Act → World → Prop} {a : Act} {w : World}
theorem wpF_of {c : Code} (h : c.wp P Q a w) : wpF f0 P c Q a w := fun b k cs hro _ => (wpIn_wide (n := 9)).2 h b k cs hro trivial (room_wide _)
theorem wpF_seq {x y : Code} (h : wpF f0 P x (Exit.then (fun a w => wpF f0 P y Q a w) Q) a w) : wpF f0 P (Code.seq x y) Q a w := by
  intro b k cs hro hb
  have h0 : (lone (b.atR a (.code (.seq x y) :: k)) cs w).fenced P Fence.wide := fenced_wide _ _
  obtain ⟨e, a₁, w₁, hq, harr⟩ := h b (.code y :: k) cs hro hb
  cases e with
  | normal =>
    obtain ⟨e₂, a₂, w₂, hq₂, harr₂⟩ := hq b k cs hro hb
    exact ⟨e₂, a₂, w₂, hq₂, .of_steps (.head h0 stepR_seq harr) harr₂⟩
  | exit id => exact ⟨_, a₁, w₁, hq, .of_steps (.one h0 stepR_seq) (.pass (x := .code y) rfl (fun _ _ => .inl (by simp)) harr)⟩
  | goto l => exact ⟨_, a₁, w₁, hq, .of_steps (.one h0 stepR_seq) (.pass (x := .code y) rfl (fun _ _ => .inl (by simp)) harr)⟩
  | ret => exact ⟨_, a₁, w₁, hq, .of_steps (.one h0 stepR_seq) (.pass (x := .code y) rfl (fun _ _ => .inl (by simp)) harr)⟩
  | panic ch => exact ⟨_, a₁, w₁, hq, .of_steps (.one h0 stepR_seq) (.pass (x := .code y) rfl (fun _ _ => .inl (by simp)) harr)⟩
  | outgrown => exact ⟨_, a₁, w₁, hq, .of_steps (.one h0 stepR_seq) (.pass (x := .code y) rfl (fun _ _ => .inl (by simp)) harr)⟩
/-- A part that comes to its end, or raises an error. -/
def NP (K : Act → World → Prop) (X : List PanicEntry → Act → World → Prop) : Exit → Act → World → Prop
  | .normal, a, w => K a w
  | .panic c, a, w => X c a w
  | _, _, _ => False
theorem wpF_block {id : Nat} {c : Code} {K : Act → World → Prop} {X : List PanicEntry → Act → World → Prop} (h : wpF f0 P c (NP K X) a w) (hK : ∀ a w, K a w → Q .normal a w) (hX : ∀ c a w, X c a w → Q (.panic c) a w) : wpF f0 P (Code.block id c) Q a w := by
  intro b k cs hro hb
  have h0 : (lone (b.atR a (.code (.block id c) :: k)) cs w).fenced P Fence.wide := fenced_wide _ _
  obtain ⟨e, a₁, w₁, hq, harr⟩ := h b (.inBlock id :: k) cs hro hb
  cases e with
  | normal => exact ⟨.normal, a₁, w₁, hK _ _ hq, .head h0 stepR_block (StepsIn.trans harr (.one (fenced_wide _ _) stepR_inBlock))⟩
  | panic ch =>
    obtain ⟨todo, hs⟩ := harr
    exact ⟨.panic ch, a₁, w₁, hX _ _ _ hq, todo, .head h0 stepR_block hs⟩
  | exit id => exact hq.elim
  | goto l => exact hq.elim
  | ret => exact hq.elim
  | outgrown => exact hq.elim
theorem calls_of_wpF {fn : Func} {c : Code} {args : Array Value} {R : Ending → World → Prop}
    (hf : P.funcs[f0]? = some fn) (hb : fn.body = some c)
    (h : wpF f0 P c (bodyPostM Fence.wide 9 P fn R) { tmps := args ++ Array.replicate (fn.ntmps - args.size) undef, defers := [] } w) : Calls P f0 args w R := by
  refine callsIn_wide.1 (⟨trivial, fun cs hr => ?_⟩ : CallsIn Fence.wide 9 P f0 args w R)
  let b : Frame := { (default : Frame) with fn := f0, kind := .normal, roundOf := none }
  have henter : Frame.enter P f0 args .normal =
      b.atR { tmps := args ++ Array.replicate (fn.ntmps - args.size) undef, defers := [] } [.code c] := by
    simp [Frame.enter, Frame.atR, hf, hb, b]
  obtain ⟨e, a', w', hq, harr⟩ := h b [] cs rfl rfl
  rw [← henter] at harr
  have hF : Fence.wide.fn f0 := trivial
  cases e with
  | normal =>
    obtain ⟨e', w'', fr', hR, hs, hfn, hl⟩ := leaves_stepsInM a'.defers .returning w' { b.atR a' [] with mode := .returning } cs rfl rfl rfl hf rfl hF hr hq
    exact ⟨e', w'', fr', hR, ComesIn.of_steps (StepsIn.trans harr (.one (fenced_calm (fr := b.atR a' []) hF hr rfl) (stepR_end rfl))) hs, hfn, hl⟩
  | ret =>
    obtain ⟨todo, hs₀⟩ := harr.1 rfl
    obtain ⟨e', w'', fr', hR, hs, hfn, hl⟩ := leaves_stepsInM a'.defers .returning w' { b.atR a' todo with mode := .returning } cs rfl rfl rfl hf rfl hF hr hq
    exact ⟨e', w'', fr', hR, ComesIn.of_steps hs₀ hs, hfn, hl⟩
  | panic chain =>
    obtain ⟨todo, hs₀⟩ := harr
    obtain ⟨e', w'', fr', hR, hs, hfn, hl⟩ := leaves_stepsInM a'.defers (.panicking chain) w' { b.atR a' todo with mode := .panicking chain } cs rfl rfl rfl hf rfl hF hr hq
    exact ⟨e', w'', fr', hR, ComesIn.of_steps hs₀ hs, hfn, hl⟩
  | exit id => exact hq.elim
  | goto l => exact hq.elim
  | outgrown => exact ⟨.outgrown, w', b, hq, harr.resolve_left (by simp [b]), rfl, trivial⟩
/-- The statement 'range over a function' in the function f0. -/
theorem wpF_rangeFunc {g : Operand} {ps : Array Tmp} {assign body : Code} {K : Act → World → Prop} {X : List PanicEntry → Act → World → Prop}
    (h : ∃ (l : Nat) (mark : List Deferred) (w₁ : World) (d : Deferred) (w₁' : World) (f : FuncId) (args : Array Value) (w₂ : World),
      (Instr.enterLoop f0 a.tmps ps assign body none).run P w = .ok (l, mark) w₁ ∧
      (resolve a.eval (rangeCall g l) 0).run P w₁ = .ok d w₁' ∧
      (invoke d.target d.args).run P w₁' = .ok (.enter f args) w₂ ∧
      CallsIn Fence.wide 9 P f args w₂ fun e w₃ => match e with
        | .returned _ => ∃ w₄, (Instr.endLoop l).run P w₃ = .ok none w₄ ∧ K { a with defers := mark ++ a.defers } w₄
        | .panicked c => X c { a with defers := mark ++ a.defers } w₃
        | .outgrown => False) :
    wpF f0 P (Code.rangeFunc g ps assign body) (NP K X) a w := by
  intro b k cs hro hb
  obtain ⟨l, mark, w₁, d, w₁', f, args, w₂, he, hres, hinv, hF, hcall⟩ := h
  rw [← hro, ← hb] at he
  have h0 : (lone (b.atR a (.code (.rangeFunc g ps assign body) :: k)) cs w).fenced P Fence.wide := fenced_wide _ _
  have henter := stepR_rangeFunc (P := P) (b := b) (a := a) (k := k) (cs := cs) (w := w) he hres hinv
  obtain ⟨e, w₃, fr, hR, hsteps, hfn, hleave⟩ := hcall (b.atR { a with defers := mark ++ a.defers } (.inRangeFunc l :: k) :: cs) (room_wide _)
  cases e with
  | outgrown => exact hR.elim
  | returned v =>
    obtain ⟨w₄, hend, hj⟩ := hR
    have sback : StepsIn (Machine.fenced P Fence.wide) P (lone (b.atR a (.code (.rangeFunc g ps assign body) :: k)) cs w) (lone (b.atR { a with defers := mark ++ a.defers } k) cs w₄) := by
      refine .head h0 henter (StepsIn.trans hsteps (.head (fenced_wide _ _) ?_ (.one (fenced_wide _ _) (stepR_endRangeFunc hend))))
      rw [← finish_atR_inRangeFunc l v]; exact step_leave_returned hleave
    exact ⟨.normal, _, w₄, hj, sback⟩
  | panicked chain =>
    refine ⟨.panic chain, _, w₃, hR, .inRangeFunc l :: k, .head h0 henter (StepsIn.trans hsteps (.one (fenced_wide _ _) ?_))⟩
    rw [← Frame.raise_atR]; exact step_leave_panicked hleave
end
/-- How the body of a round may be left. -/
def outPostX (B : Nat) (I : World → Prop) (X : List PanicEntry → World → Prop) (W : World) : Exit → Act → World → Prop
  | .normal, _, W' => KeepsFrom B W W' ∧ I W'
  | .panic c, a, W' => a.defers = [] ∧ KeepsFrom B W W' ∧ X c W'
  | _, _, _ => False
section
variable {w : World}
theorem range63 {f0 : FuncId} {fn0 : Func} (hf0 : Try.prog.funcs[f0]? = some fn0) {g : Operand} {ps : Array Tmp} {assign body : Code} {K : Act → World → Prop} {XQ : List PanicEntry → Act → World → Prop} {a : Act} {q1 q2 gw N : Nat}
    (hg : a.eval g = .func (.func 63) #[] #[.pointer (some ⟨q1, 0, none⟩), .pointer (some ⟨q2, 0, none⟩)]) (eg : ∀ args w, (callFunc 63 args).run Try.prog w = .ok (.enter 63 args) w)
    (hN : N ≤ 1000) (hps : ps.size = 2) (hq1l : q1 < w.heap.size)
    (hq1 : w.cell? ⟨q1, 0, none⟩ = some (.int .i64 (N : Int)))
    (I : Nat → World → Prop) (M : Nat → Value → World → Prop) (X : List PanicEntry → World → Prop)
    (hI : OwnFrom w.heap.size I) (hM : ∀ k, OwnFrom w.heap.size (M k)) (h0 : I 0 w)
    (hq2 : ∀ k W, I k W → W.cell? ⟨q2, 0, none⟩ = some (.func (.func 48) #[.pointer (some ⟨gw, 0, none⟩)] #[]))
    (hP : ∀ k, k < N → ∀ W, I k W → CallsIn Fence.wide 8 Try.prog 48 #[.pointer (some ⟨gw, 0, none⟩), .int .i64 (k : Int)] W fun e W' => EndX (M k) X e W' ∧ KeepsFrom w.heap.size W W')
    (Ax : Nat → Value → Act → World → Prop) (hAx : ∀ k v a', OwnFrom w.heap.size (fun (_ : Unit) W => Ax k v a' W))
    (hassign : ∀ (l k : Nat) (hk : k < N) (v : Value) (W : World) (K : Act → World → Prop), M k v W → (∀ a' W', KeepsFrom w.heap.size W W' → Ax k v a' W' → K a' W') →
      assign.wpIn (Fence.wide.inRound l) 9 Try.prog (Exit.then K (fun _ _ _ => False)) { tmps := (ps.zip #[.int .i64 (k : Int), v]).foldl (fun t (p, v) => t.setIfInBounds p v) a.tmps, defers := [] } W)
    (hbody : ∀ (l k : Nat) (hk : k < N) (v : Value) (a' : Act) (W : World), w.heap.size ≤ l → Ax k v a' W → body.wpIn (Fence.wide.inRound l) 9 Try.prog (outPostX w.heap.size (I (k + 1)) X W) a' W)
    (hdone : ∀ (D : Nat) (W : World), w.heap.size ≤ D → I N W → W.heap[D]? = some (.deferred (some [])) → K { a with defers := { target := .collected D, args := #[] } :: a.defers } W)
    (hpan : ∀ (D : Nat) (c : List PanicEntry) (W : World), w.heap.size ≤ D → X c W → W.heap[D]? = some (.deferred (some [])) → XQ c { a with defers := { target := .collected D, args := #[] } :: a.defers } W) :
    wpF f0 Try.prog (Code.rangeFunc g ps assign body) (NP K XQ) a w := by
  -- the record of the loop, and the world in which the iterator is called
  obtain ⟨R, hR⟩ : ∃ R : LoopState → Option Code → Loop, R = fun st pe => { state := st, pending := pe, fn := f0, tmps := a.tmps, params := ps, assign, body, defers := w.heap.size } := ⟨_, rfl⟩
  obtain ⟨hD0, hL0, hs0, hbe⟩ := two_laid w (.deferred (some [])) (.loop (R .ready none))
  have hI0 : I 0 ((w.alloc (.deferred (some []))).alloc (.loop (R .ready none))) := hI.alloc _ (hI.alloc _ h0)
  have hen : (Instr.enterLoop f0 a.tmps ps assign body none).run Try.prog w = .ok (w.heap.size + 1, [{ target := .collected w.heap.size, args := #[] }]) ((w.alloc (.deferred (some []))).alloc (.loop (R .ready none))) := by
    rw [hR]; exact run_enterLoop_outer _ _ _ _ _
  generalize (w.alloc (.deferred (some []))).alloc (.loop (R .ready none)) = W1 at *
  refine wpF_rangeFunc ⟨w.heap.size + 1, _, W1, { target := .fn (.func 63) #[.pointer (some ⟨q1, 0, none⟩), .pointer (some ⟨q2, 0, none⟩)], args := #[.func (.yield (w.heap.size + 1)) #[] #[]] }, W1, 63, #[.func (.yield (w.heap.size + 1)) #[] #[]] ++ #[.pointer (some ⟨q1, 0, none⟩), .pointer (some ⟨q2, 0, none⟩)], W1, hen, by simp only [resolve, hg]; simp [go_sem], by simp [invoke, go_sem, eg], ?_⟩
  have hcall := num63_in (w.heap.size + 1) q1 q2 N gw hN (fun k W => I k W ∧ W.heap[w.heap.size + 1]? = some (.loop (R .ready none)) ∧ W.heap[w.heap.size]? = some (.deferred (some [])))
    (fun k v W => M k v W ∧ W.heap[w.heap.size + 1]? = some (.loop (R .ready none)) ∧ W.heap[w.heap.size]? = some (.deferred (some [])))
    (fun c W => X c W ∧ W.heap[w.heap.size]? = some (.deferred (some []))) W1 ((hbe.cell (p := ⟨q1, 0, none⟩) hq1l).trans hq1) (fun k W h => hq2 k W h.1)
    (fun k hk W h => (hP k hk W h.1).mono fun e W' ⟨he, hkf⟩ => by
      have k1 := hkf.same _ _ (by omega) h.2.1 rfl
      have k2 := hkf.same _ _ (Nat.le_refl _) h.2.2 rfl
      rcases he with ⟨v, rfl, hm⟩ | ⟨c, rfl, hx⟩
      · exact .inl ⟨v, rfl, hm, k1, k2⟩
      · exact .inr ⟨c, rfl, hx, k2⟩) ?_ ⟨hI0, hL0, hD0⟩
  · refine ((callsIn_wide.2 (callsIn_wide.1 hcall) : CallsIn Fence.wide 9 Try.prog 63 _ W1 _)).mono ?_
    rintro e W2 (⟨v, rfl, hi, hl, hd⟩ | ⟨c, rfl, hx, hd⟩)
    · have he := run_endLoop (P := Try.prog) hl (by rw [hR]; simp)
      exact ⟨_, by rw [hR] at he; exact he, hdone _ _ (Nat.le_refl _) (hI.putObj _ hi (by omega) hl rfl) ((World.putObj_heap_other (by omega)).trans hd)⟩
    · exact hpan _ c _ (Nat.le_refl _) hx hd
  · -- one round
    rintro k hk v W ⟨hm, hl, hd⟩
    have hyl := run_yield (P := Try.prog) (args := #[.int .i64 (k : Int), v]) hl (by rw [hR]; simp [hps])
    rw [hR] at hyl
    refine ⟨f0, _, assign, body, hyl, roundIn_of_wpInX trivial hf0 (hassign _ k hk v W _ hm ?_)⟩
    intro a' Wa hka hax
    have hla := hka.same _ _ (by omega) hl rfl
    have hda := hka.same _ _ (Nat.le_refl _) hd rfl
    have hlt := (Array.getElem?_eq_some_iff.1 hla).1
    refine ⟨_, run_beginRound hla (by rw [hR]), ?_⟩
    have hl2 : (Wa.putObj (w.heap.size + 1) (.loop { R .ready none with state := .busy })).heap[w.heap.size + 1]? = some (.loop { R .ready none with state := .busy }) := World.putObj_heap_same hlt
    have hd2 : (Wa.putObj (w.heap.size + 1) (.loop { R .ready none with state := .busy })).heap[w.heap.size]? = some (.deferred (some [])) := (World.putObj_heap_other (by omega)).trans hda
    have hb := hbody (w.heap.size + 1) k hk v a' (Wa.putObj (w.heap.size + 1) (.loop { R .ready none with state := .busy })) (by omega) ((hAx k v a').putObj (s := ()) _ hax (by omega) hla rfl)
    generalize Wa.putObj (w.heap.size + 1) (.loop { R .ready none with state := .busy }) = W3 at *
    refine wpIn_mono hb ?_
    rintro e a4 W4 hp
    cases e with
    | normal =>
      obtain ⟨hk4, hi4⟩ := hp
      have hl4 := hk4.same _ _ (by omega) hl2 rfl
      have he := run_endRound (P := Try.prog) none hl4
      have hd4 := hk4.same _ _ (Nat.le_refl _) hd2 rfl
      rw [hR] at he
      refine ⟨_, _, he, .inl ⟨rfl, hI.putObj _ hi4 (by omega) hl4 rfl, ?_, (World.putObj_heap_other (by omega)).trans hd4⟩⟩
      rw [hR]
      exact World.putObj_heap_same (Array.getElem?_eq_some_iff.1 hl4).1
    | panic c =>
      obtain ⟨hdf, hk4, hx⟩ := hp
      exact ⟨hdf, .inr ⟨c, rfl, hx, hk4.same _ _ (Nat.le_refl _) hd2 rfl⟩⟩
    | ret => exact hp.elim
    | exit i => exact hp.elim
    | goto t => exact hp.elim
    | outgrown => exact hp.elim
end
end Go.Proofs.Ytngaifokkkmmcaa
