/- What the walk of FlashNone needs. Conditions stand in each theorem. -/
import Derived.Test.YtddejcoagcaidaaCB
import Derived.Test.YtddejcoagcaidaaBF
import Derived.Deep.RegionHeld3
namespace Go.Proofs.Ytddejcoagcaidaa
open Go.RowKit Go.Shelf
attribute [local go_sem] Oper.semAt_some
set_option linter.unusedVariables false
set_option maxHeartbeats 4000000
set_option maxRecDepth 100000
/-- A function value against nil. -/
theorem run_equalIn_func_nil {P : Program} (w : World) (d : Nat) (t : TypeId) {ps rs : Array TypeId} {vr : Bool} (f : Fn) (a b : Array Value) (h : P.underlying t = some (.func ps rs vr)) :
    (Op.equalIn (d + 1) t (.func f a b) .nilFunc).run P w = .ok false w := by
  simp [Op.equalIn, run_underlying h]
theorem run_eql_func_nil {P : Program} (w : World) (t : TypeId) {ps rs : Array TypeId} {vr : Bool} (f : Fn) (a b : Array Value) (h : P.underlying t = some (.func ps rs vr)) :
    (binOp .eql t (.func f a b) .nilFunc).run P w = .ok (.bool false) w := by
  simp only [binOp]
  simp [show Op.equal t (.func f a b) .nilFunc = Op.equalIn (9999 + 1) t (.func f a b) .nilFunc from rfl, run_equalIn_func_nil w 9999 t f a b h]
theorem geo_eql (W : World) : (binOp .eql 23 (.agg #[.int .i64 0, .int .i64 0, .int .i64 0, .int .i64 0]) (.agg #[.int .i64 0, .int .i64 0, .int .i64 0, .int .i64 0])).run Try.prog W = .ok (.bool true) W := by kernel_rfl
/-- The variable of the result. -/
def RAt (W : World) (q : Nat) : Prop := W.heap[q]? = some (.cells #[.bool false] 4 (0, 0))
theorem RAt.below {W W' : World} {q : Nat} (h : RAt W q) (hb : Below W.heap.size W W') : RAt W' q := (hb.block q (Array.getElem?_eq_some_iff.1 h).1).trans h
theorem RAt.cell {W : World} {q : Nat} (h : RAt W q) : W.cell? ⟨q, 0, none⟩ = some (.bool false) ∧ W.frozen? ⟨q, 0, none⟩ = false := ⟨by rw [cell_of_row W q 0 _ 4 (0, 0) h]; rfl, frozen_of_row W q 0 _ 4 h⟩
theorem few_one (wh bl pg : Int) (Ax Ay : Option Addr) (nx ny : Nat) (x y : List UInt8) (W : World) (q : Nat) (h : XAt W q wh bl pg (.slice Ax x.length nx) (.slice Ay y.length ny)) (hx : Byt W (.slice Ax x.length nx) x) (hy : Byt W (.slice Ay y.length ny) y) :
    Calls Try.prog 9 #[.slice (some ⟨q, 0, none⟩) 1 1, .int .i64 1] W (OkB (fewB [⟨wh, bl, pg, .slice Ax x.length nx, .slice Ay y.length ny, x, y⟩] 1) W) := by
  refine few_any (.slice (some ⟨q, 0, none⟩) 1 1) [⟨wh, bl, pg, .slice Ax x.length nx, .slice Ay y.length ny, x, y⟩] 1 W ⟨some ⟨q, 0, none⟩, 1, rfl, fun _ => ⟨q, 0, rfl, (Array.getElem?_eq_some_iff.1 h).1, fun j hj => ?_⟩⟩ (fun e he => ?_) (by omega)
  · have hj0 : j = 0 := by simp at hj; omega
    subst hj0
    exact h.cells
  · rw [List.mem_singleton] at he
    subst he
    exact ⟨hx, hy⟩
theorem range_nothing_skip {n : Nat} (hn : 2 ≤ n) {g : Operand} {ps : Array Tmp} {body : Code} {Q : Exit → Act → World → Prop} {a : Act} {w : World} {gf : Nat} {lb : Array Value} (hg : a.eval g = .func (.func gf) #[] lb) (hps : ps.size = 2)
    (hf : Fence.wide.fn gf) (eg : ∀ args w, (callFunc gf args).run Try.prog w = .ok (.enter gf args) w) (hs : None0 (n - 1) gf lb w)
    (hdone : ∀ D W, w.heap.size ≤ D → Below w.heap.size w W → W.heap[D]? = some (.deferred (some [])) → Q .normal { a with defers := { target := .collected D, args := #[] } :: a.defers } W) :
    (Code.rangeFunc g ps Code.skip body).wpIn Fence.wide n Try.prog Q a w :=
  range_nothing hn hg hps hf eg hs (fun x => { tmps := (ps.zip (qv x)).foldl (fun t (p, v) => t.setIfInBounds p v) a.tmps, defers := [] }) (fun l x W K hK => wpIn_skip hK) hdone
end Go.Proofs.Ytddejcoagcaidaa
