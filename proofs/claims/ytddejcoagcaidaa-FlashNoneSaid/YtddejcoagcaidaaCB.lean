/- What Wear returns without a device: an iterator that yields nothing. Conditions stand in each theorem. -/
import Derived.RangeFuncNested
import Derived.RangeFuncBound
import Derived.RangeFuncCalls
import Derived.RangeFuncLeaves
import Derived.Shelf.Abstract
import Derived.Shelf.RegionOpen
import Derived.OwnWalkIn
import Derived.TacticsInMore
import Derived.LoopNIn
import Derived.LoopIn
import Derived.Maps.OwnIn
import Derived.Test.YtddejcoagcaidaaCA
namespace Go.Proofs.Ytddejcoagcaidaa
open Go.RowKit Go.Shelf
attribute [local go_sem] Oper.semAt_some
set_option linter.unusedVariables false
set_option maxHeartbeats 1000000
set_option maxRecDepth 100000
abbrev QC := Int × Int
abbrev qv (x : QC) : Array Value := #[.int .i64 x.1, .int .i64 x.2]
/-- The blocks from lo up to hi are as they were. -/
def Kpt (lo hi : Nat) (W W' : World) : Prop := ∀ k, lo ≤ k → k < hi → W'.heap[k]? = W.heap[k]?
theorem Kpt.refl (lo hi : Nat) (W : World) : Kpt lo hi W W := fun _ _ _ => rfl
theorem Kpt.trans {lo hi : Nat} {A B C : World} (h : Kpt lo hi A B) (k : Kpt lo hi B C) : Kpt lo hi A C := fun i h1 h2 => (k i h1 h2).trans (h i h1 h2)
/-- An iterator that yields nothing. -/
def None0 (n f : Nat) (lb : Array Value) (w : World) : Prop := SeqStopsK Fence.wide n Try.prog f lb qv (Kpt 0 w.heap.size) (fun xs => xs = []) (fun pre => pre <+: []) 0 w
theorem all_in (n : Nat) (hn : 1 ≤ n) (l B : Nat) (J Jx : List QC → World → Prop) (W : World) (hc : W.cell? ⟨B, 0, none⟩ = some (.slice none 0 0)) (h0 : J [] W) :
    CallsIn Fence.wide n Try.prog 65 #[.func (.yield l) #[] #[], .pointer (some ⟨B, 0, none⟩)] W fun e W' => (∃ v, e = .returned v) ∧ ((∃ ys : List QC, ys = [] ∧ J ys W') ∨ (∃ pre : List QC, pre <+: [] ∧ Jx pre W')) := by
  have H0 := Lib.hid h0
  clear h0
  refine callsIn_of_wp Try.func65 rfl trivial ?_ rfl
  simp only [Try.ntmps65, List.size_toArray, List.length_cons, List.length_nil, Nat.reduceAdd, Nat.reduceSub, Array.replicate_succ, Array.replicate_zero, List.push_toArray, List.append_toArray, List.nil_append, List.cons_append]
  gi_wp2
  refine wpIn_loop_rounds 1 ?_
  rw [roundsIn_succ]
  gi_wp2
  go_end0
  exact ⟨⟨_, rfl⟩, .inl ⟨[], rfl, H0.out⟩⟩
theorem all_stops (n : Nat) (hn : 1 ≤ n) (B : Nat) (w : World) (hB : B < w.heap.size) (hc : w.cell? ⟨B, 0, none⟩ = some (.slice none 0 0)) : None0 n 65 #[.pointer (some ⟨B, 0, none⟩)] w := fun l J Jx W hW hJ hJx hY h0 =>
  all_in n hn l B J Jx W ((hW.cell (p := ⟨B, 0, none⟩) hB).trans hc) h0
theorem All_none (W : World) : Calls Try.prog 53 #[.slice none 0 0] W fun e W' => e = .returned (.func (.func 65) #[] #[.pointer (some ⟨W.heap.size, 0, none⟩)]) ∧ W' = W.alloc (.cells #[.slice none 0 0] 24) := by
  refine (callsIn_wide (n := 9)).1 ?_
  refine callsIn_of_wp_marks Try.func53 rfl trivial ?_ rfl
  simp only [Try.ntmps53, List.size_toArray, List.length_cons, List.length_nil, Nat.reduceAdd, Nat.reduceSub, Array.replicate_succ, Array.replicate_zero, List.push_toArray, List.append_toArray, List.nil_append, List.cons_append]
  gi_wp2
  exact ⟨_, results_tmp rfl _ _ _, rfl, rfl⟩
/-- A loop over an iterator that yields nothing. -/
theorem range_nothing {n : Nat} (hn : 2 ≤ n) {g : Operand} {ps : Array Tmp} {assign body : Code} {Q : Exit → Act → World → Prop} {a : Act} {w : World} {gf : Nat} {lb : Array Value} (hg : a.eval g = .func (.func gf) #[] lb) (hps : ps.size = 2)
    (hf : Fence.wide.fn gf) (eg : ∀ args w, (callFunc gf args).run Try.prog w = .ok (.enter gf args) w) (hs : None0 (n - 1) gf lb w) (a₁ : QC → Act)
    (has : ∀ (l : Nat) (x : QC) (W : World) (K : Act → World → Prop), K (a₁ x) W → assign.wpIn (Fence.wide.inRound l) (n - 1 - 1) Try.prog (Exit.then K (fun _ _ _ => False)) { tmps := (ps.zip (qv x)).foldl (fun t (p, v) => t.setIfInBounds p v) a.tmps, defers := [] } W)
    (hdone : ∀ D W, w.heap.size ≤ D → Below w.heap.size w W → W.heap[D]? = some (.deferred (some [])) → Q .normal { a with defers := { target := .collected D, args := #[] } :: a.defers } W) :
    (Code.rangeFunc g ps assign body).wpIn Fence.wide n Try.prog Q a w := by
  refine wpIn_rangeFunc_ownG rfl (by omega) (gf := gf) (lb := lb) hg hf eg hs
    Kpt.trans (fun W l o o' hl hw ho _ k _ hk => World.putObj_heap_other (by omega)) (Below.refl _ _) (fun _ => by rw [hps]; rfl)
    (fun _ W => Below w.heap.size w W) (fun _ _ _ => False) (fun pre W W' row h hg' hr => h.grown hg' h.size (fun k e => (hr k e).1)) (fun _ _ _ _ _ hs _ _ => hs) (Below.refl _ _) a₁ has ?body ?done ?stop
  case body =>
    intro l pre x W _ hlt
    exact absurd hlt (by simp)
  case done =>
    intro D xs W hD _ hB hK
    exact hdone D W hD hB hK
  case stop =>
    intro D c pre W _ _ h _
    exact h.elim
theorem heap_cell_new (W : World) (v : Value) (t : TypeId) : (W.alloc (.cells #[v] t)).cell? ⟨W.heap.size, 0, none⟩ = some v := by
  rw [cell_of_row (W.alloc (.cells #[v] t)) W.heap.size 0 #[v] t (0, 0) (heap_alloc_new W _)]
  rfl
theorem wear_in (l B : Nat) (J Jx : List QC → World → Prop) (W : World) (hc : W.cell? ⟨B, 0, none⟩ = some (.slice none 0 0)) (hJ : AbidesFrom W.heap.size J) (h0 : J [] W) :
    CallsIn Fence.wide 11 Try.prog 52 #[.func (.yield l) #[] #[], .pointer (some ⟨B, 0, none⟩)] W fun e W' => (∃ v, e = .returned v) ∧ ((∃ ys : List QC, ys = [] ∧ J ys W') ∨ (∃ pre : List QC, pre <+: [] ∧ Jx pre W')) := by
  have H0 := Lib.hid h0
  have HJ := Lib.hid hJ
  clear h0 hJ
  have f53 : Fence.wide.fn 53 := trivial
  have hB : B < W.heap.size := World.block_lt_of_cell? W _ hc
  have hcB : (W.alloc (.cells #[.func (.yield l) #[] #[]] 86)).cell? ⟨B, 0, none⟩ = some (.slice none 0 0) := ((below_alloc W _).cell (p := ⟨B, 0, none⟩) hB).trans hc
  refine callsIn_of_wp_marks Try.func52 rfl trivial ?_ rfl
  simp only [Try.ntmps52, List.size_toArray, List.length_cons, List.length_nil, Nat.reduceAdd, Nat.reduceSub, Array.replicate_succ, Array.replicate_zero, List.push_toArray, List.append_toArray, List.nil_append, List.cons_append]
  gi_wp2
  refine wpIn_wide.2 (wp_scope_straight ((wpIn_wide (n := 11)).1 (wpIn_seq (wpIn_label ?_))))
  dsimp only [Exit.then]
  gi_wp2_with (gi_at_call 53; refine (callsIn_wide.2 (All_none _)).mono ?_; rintro e w' ⟨rfl, rfl⟩)
  refine range_nothing (gf := 65) (by omega) rfl rfl trivial (enters_of Try.func65 (by kernel_rfl) rfl) (all_stops _ (by omega) _ _ (by simp) (by have := heap_cell_new (W.alloc (.cells #[.func (.yield l) #[] #[]] 86)) (.slice none 0 0) 24; rw [World.size_alloc] at this; exact this)) (fun x => { tmps := #[.func (.yield l) #[] #[], .pointer (some ⟨B, 0, none⟩), .pointer (some ⟨W.heap.size, 0, none⟩), .int .i64 x.1, .int .i64 x.2, .slice none 0 0, .func (.func 65) #[] #[.pointer (some ⟨W.heap.size + 1, 0, none⟩)], .int .i64 x.1, .int .i64 x.2, undef, undef, undef, undef, undef], defers := [] }) ?_ ?_
  · intro l' x W' K hK
    gi_wp2
    exact hK
  · intro D W' hD hB' hD0
    have hz : W.heap.size ≤ D := by simp at hD; omega
    have hb1 : Below W.heap.size W ((W.alloc (.cells #[.func (.yield l) #[] #[]] 86)).alloc (.cells #[.slice none 0 0] 24)) := (below_alloc W _).alloc (by simp) _
    have hbf : Below W.heap.size W (W'.putObj D (.deferred none)) := (hb1.trans (hB'.mono hb1.size)).trans (belowK_b (w := W) (Nat.le_refl _) _ D _ _ hz hD0 rfl rfl)
    have hg : W.grownBy (W'.putObj D (.deferred none)) none := ⟨hbf.os, hbf.tape, hbf.output, hbf.size, fun k hk _ => hbf.block k hk⟩
    refine ⟨by simp, .inl ⟨_, _, rfl, run_takeDeferred hD0, ?_⟩⟩
    exact ⟨_, results_none rfl _ _ _, ⟨_, rfl⟩, .inl ⟨[], rfl, HJ.out _ _ _ none H0.out hg (fun r e => by cases e)⟩⟩
theorem wear_stops (B : Nat) (w : World) (hB : B < w.heap.size) (hc : w.cell? ⟨B, 0, none⟩ = some (.slice none 0 0)) : None0 11 52 #[.pointer (some ⟨B, 0, none⟩)] w := fun l J Jx W hW hJ hJx hY h0 =>
  wear_in l B J Jx W ((hW.cell (p := ⟨B, 0, none⟩) hB).trans hc) hJ h0
theorem Wear_miss {w : World} {p : Option Addr} (h : Miss w p) : Calls Try.prog 20 #[.pointer p] w fun e w' => e = .returned (.func (.func 52) #[] #[.pointer (some ⟨w.heap.size, 0, none⟩)]) ∧ w' = w.alloc (.cells #[.slice none 0 0] 24) := by
  have HM := Lib.hid (h _ (below_alloc w (.cells #[.slice none 0 0] 24)))
  clear h
  refine (callsIn_wide (n := 9)).1 ?_
  have f46 : Fence.wide.fn 46 := trivial
  refine callsIn_of_wp_marks Try.func20 rfl trivial ?_ rfl
  simp only [Try.ntmps20, List.size_toArray, List.length_cons, List.length_nil, Nat.reduceAdd, Nat.reduceSub, Array.replicate_succ, Array.replicate_zero, List.push_toArray, List.append_toArray, List.nil_append, List.cons_append]
  gi_wp2_with (gi_at_call 46; refine (callsIn_wide.2 HM.out).mono ?_; rintro e w' ⟨rfl, rfl⟩)
  exact ⟨_, results_tmp rfl _ _ _, rfl, rfl⟩
theorem Copy_miss {w : World} {p : Option Addr} (h : Miss w p) : Calls Try.prog 19 #[.pointer p] w fun e w' => e = .returned (.pointer none) ∧ w = w' := by
  have HM := Lib.hid (h w (Below.refl _ _))
  clear h
  refine (callsIn_wide (n := 9)).1 ?_
  have f46 : Fence.wide.fn 46 := trivial
  refine callsIn_of_wp_marks Try.func19 rfl trivial ?_ rfl
  simp only [Try.ntmps19, List.size_toArray, List.length_cons, List.length_nil, Nat.reduceAdd, Nat.reduceSub, Array.replicate_succ, Array.replicate_zero, List.push_toArray, List.append_toArray, List.nil_append, List.cons_append]
  gi_wp2_with (gi_at_call 46; refine (callsIn_wide.2 HM.out).mono ?_; rintro e w' ⟨rfl, rfl⟩)
  exact ⟨_, results_tmp rfl _ _ _, rfl, rfl⟩
end Go.Proofs.Ytddejcoagcaidaa
