/- A range over the iterator of spans. Conditions stand in each theorem. -/
import Derived.Test.YtngaifokkkmmcaaCE
namespace Go.Proofs.Ytngaifokkkmmcaa
open Go.RowKit Go.Shelf
attribute [local go_sem] Oper.semAt_some
set_option linter.unusedVariables false
set_option maxHeartbeats 2000000
set_option maxRecDepth 100000
section
variable {w : World}
theorem range56 {f0 : FuncId} {fn0 : Func} (hf0 : Try.prog.funcs[f0]? = some fn0) {g : Operand} {ps : Array Tmp} {assign body : Code} {K : Act → World → Prop} {XQ : List PanicEntry → Act → World → Prop} {a : Act} {q1 q2 gw N : Nat}
    (hg : a.eval g = .func (.func 56) #[] #[.pointer (some ⟨q1, 0, none⟩), .pointer (some ⟨q2, 0, none⟩)]) (eg : ∀ args w, (callFunc 56 args).run Try.prog w = .ok (.enter 56 args) w)
    (hN : N ≤ 1000) (hps : ps.size = 2) (hq1l : q1 < w.heap.size)
    (hq1 : w.cell? ⟨q1, 0, none⟩ = some (.int .i64 (N : Int)))
    (I : Nat → World → Prop) (M : Nat → Value → World → Prop) (X : List PanicEntry → World → Prop)
    (hI : OwnFrom w.heap.size I) (hM : ∀ k, OwnFrom w.heap.size (M k)) (h0 : I 0 w)
    (hq2 : ∀ k W, I k W → W.cell? ⟨q2, 0, none⟩ = some (.func (.func 29) #[] #[.pointer (some ⟨gw, 0, none⟩)]))
    (hP : ∀ k, k < N → ∀ W, I k W → CallsIn Fence.wide 8 Try.prog 29 #[.int .i64 (k : Int), .pointer (some ⟨gw, 0, none⟩)] W fun e W' => EndX (M k) X e W' ∧ KeepsFrom w.heap.size W W')
    (Ax : Nat → Value → Act → World → Prop) (hAx : ∀ k v a', OwnFrom w.heap.size (fun (_ : Unit) W => Ax k v a' W))
    (hassign : ∀ (l k : Nat) (hk : k < N) (v : Value) (W : World) (K : Act → World → Prop), M k v W → (∀ a' W', KeepsFrom w.heap.size W W' → Ax k v a' W' → K a' W') →
      assign.wpIn (Fence.wide.inRound l) 9 Try.prog (Exit.then K (fun _ _ _ => False)) { tmps := (ps.zip #[.int .i64 (k : Int), v]).foldl (fun t (p, v) => t.setIfInBounds p v) a.tmps, defers := [] } W)
    (hbody : ∀ (l k : Nat) (hk : k < N) (v : Value) (a' : Act) (W : World), w.heap.size ≤ l → Ax k v a' W → body.wpIn (Fence.wide.inRound l) 9 Try.prog (outPostX w.heap.size (I (k + 1)) X W) a' W)
    (hdone : ∀ (D : Nat) (W : World), w.heap.size ≤ D → I N W → W.heap[D]? = some (.deferred (some [])) → K { a with defers := { target := .collected D, args := #[] } :: a.defers } W)
    (hpan : ∀ (D : Nat) (c : List PanicEntry) (W : World), w.heap.size ≤ D → X c W → W.heap[D]? = some (.deferred (some [])) → XQ c { a with defers := { target := .collected D, args := #[] } :: a.defers } W) :
    wpF f0 Try.prog (Code.rangeFunc g ps assign body) (NP K XQ) a w := by
  -- the record of the loop, and the world in which the iterator is called
  obtain ⟨R, hR⟩ : ∃ R : LoopState → Option Code → Loop, R = fun st pe => { state := st, pending := pe, fn := f0, tmps := a.tmps, params := ps, assign, body, defers := w.heap.size } := ⟨_, rfl⟩
  obtain ⟨hD0, hL0, hs0, hbe⟩ := two_laid w (.deferred (some [])) (.loop (R .ready none))
  have hI0 : I 0 ((w.alloc (.deferred (some []))).alloc (.loop (R .ready none))) := hI.alloc _ (hI.alloc _ h0)
  have hen : (Instr.enterLoop f0 a.tmps ps assign body none).run Try.prog w = .ok (w.heap.size + 1, [{ target := .collected w.heap.size, args := #[] }]) ((w.alloc (.deferred (some []))).alloc (.loop (R .ready none))) := by
    rw [hR]; exact run_enterLoop_outer _ _ _ _ _
  generalize (w.alloc (.deferred (some []))).alloc (.loop (R .ready none)) = W1 at *
  refine wpF_rangeFunc ⟨w.heap.size + 1, _, W1, { target := .fn (.func 56) #[.pointer (some ⟨q1, 0, none⟩), .pointer (some ⟨q2, 0, none⟩)], args := #[.func (.yield (w.heap.size + 1)) #[] #[]] }, W1, 56, #[.func (.yield (w.heap.size + 1)) #[] #[]] ++ #[.pointer (some ⟨q1, 0, none⟩), .pointer (some ⟨q2, 0, none⟩)], W1, hen, by simp only [resolve, hg]; simp [go_sem], by simp [invoke, go_sem, eg], ?_⟩
  have hcall := num56_in (w.heap.size + 1) q1 q2 N gw hN (fun k W => I k W ∧ W.heap[w.heap.size + 1]? = some (.loop (R .ready none)) ∧ W.heap[w.heap.size]? = some (.deferred (some [])))
    (fun k v W => M k v W ∧ W.heap[w.heap.size + 1]? = some (.loop (R .ready none)) ∧ W.heap[w.heap.size]? = some (.deferred (some [])))
    (fun c W => X c W ∧ W.heap[w.heap.size]? = some (.deferred (some []))) W1 ((hbe.cell (p := ⟨q1, 0, none⟩) hq1l).trans hq1) (fun k W h => hq2 k W h.1)
    (fun k hk W h => (hP k hk W h.1).mono fun e W' ⟨he, hkf⟩ => by
      have k1 := hkf.same _ _ (by omega) h.2.1 rfl
      have k2 := hkf.same _ _ (Nat.le_refl _) h.2.2 rfl
      rcases he with ⟨v, rfl, hm⟩ | ⟨c, rfl, hx⟩
      · exact .inl ⟨v, rfl, hm, k1, k2⟩
      · exact .inr ⟨c, rfl, hx, k2⟩) ?_ ⟨hI0, hL0, hD0⟩
  · refine ((callsIn_wide.2 (callsIn_wide.1 hcall) : CallsIn Fence.wide 9 Try.prog 56 _ W1 _)).mono ?_
    rintro e W2 (⟨v, rfl, hi, hl, hd⟩ | ⟨c, rfl, hx, hd⟩)
    · have he := run_endLoop (P := Try.prog) hl (by rw [hR]; simp)
      exact ⟨_, by rw [hR] at he; exact he, hdone _ _ (Nat.le_refl _) (hI.putObj _ hi (by omega) hl rfl) ((World.putObj_heap_other (by omega)).trans hd)⟩
    · exact hpan _ c _ (Nat.le_refl _) hx hd
  · -- one round
    rintro k hk v W ⟨hm, hl, hd⟩
    have hyl := run_yield (P := Try.prog) (args := #[.int .i64 (k : Int), v]) hl (by rw [hR]; simp [hps])
    rw [hR] at hyl
    refine ⟨f0, _, assign, body, hyl, roundIn_of_wpInX trivial hf0 (hassign _ k hk v W _ hm ?_)⟩
    intro a' Wa hka hax
    have hla := hka.same _ _ (by omega) hl rfl
    have hda := hka.same _ _ (Nat.le_refl _) hd rfl
    have hlt := (Array.getElem?_eq_some_iff.1 hla).1
    refine ⟨_, run_beginRound hla (by rw [hR]), ?_⟩
    have hl2 : (Wa.putObj (w.heap.size + 1) (.loop { R .ready none with state := .busy })).heap[w.heap.size + 1]? = some (.loop { R .ready none with state := .busy }) := World.putObj_heap_same hlt
    have hd2 : (Wa.putObj (w.heap.size + 1) (.loop { R .ready none with state := .busy })).heap[w.heap.size]? = some (.deferred (some [])) := (World.putObj_heap_other (by omega)).trans hda
    have hb := hbody (w.heap.size + 1) k hk v a' (Wa.putObj (w.heap.size + 1) (.loop { R .ready none with state := .busy })) (by omega) ((hAx k v a').putObj (s := ()) _ hax (by omega) hla rfl)
    generalize Wa.putObj (w.heap.size + 1) (.loop { R .ready none with state := .busy }) = W3 at *
    refine wpIn_mono hb ?_
    rintro e a4 W4 hp
    cases e with
    | normal =>
      obtain ⟨hk4, hi4⟩ := hp
      have hl4 := hk4.same _ _ (by omega) hl2 rfl
      have he := run_endRound (P := Try.prog) none hl4
      have hd4 := hk4.same _ _ (Nat.le_refl _) hd2 rfl
      rw [hR] at he
      refine ⟨_, _, he, .inl ⟨rfl, hI.putObj _ hi4 (by omega) hl4 rfl, ?_, (World.putObj_heap_other (by omega)).trans hd4⟩⟩
      rw [hR]
      exact World.putObj_heap_same (Array.getElem?_eq_some_iff.1 hl4).1
    | panic c =>
      obtain ⟨hdf, hk4, hx⟩ := hp
      exact ⟨hdf, .inr ⟨c, rfl, hx, hk4.same _ _ (Nat.le_refl _) hd2 rfl⟩⟩
    | ret => exact hp.elim
    | exit i => exact hp.elim
    | goto t => exact hp.elim
    | outgrown => exact hp.elim
end
end Go.Proofs.Ytngaifokkkmmcaa
