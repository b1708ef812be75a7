/- The walk of ArbiterQueues. Conditions stand in each theorem. -/
import Derived.Test.YtildofclgofjdaaQA
import Derived.Lib.MinMax
namespace Go.Proofs.Ytildofclgofjdaa
open Go.RowKit Go.Shelf
attribute [local go_sem] Oper.semAt_some
set_option linter.unusedVariables false
set_option maxHeartbeats 8000000
set_option maxRecDepth 100000
/-- The parameters in memory, and the variable for the result. -/
def qE (w : World) (wt : Bool) (bu hi me lo mny : Int) : World := ((w.alloc (.cells #[.bool wt, .int .i64 bu, .int .i64 hi, .int .i64 me, .int .i64 lo] 23)).alloc (.cells #[.int .i64 mny] 3)).alloc (.cells #[.bool false] 4)
structure QE (w : World) (wt : Bool) (bu hi me lo mny : Int) (E : World) : Prop where
  size : E.heap.size = w.heap.size + 3
  below : Below w.heap.size w E
  cfg : CfgAt E w.heap.size wt bu hi me lo
  xm : Bx1 E (w.heap.size + 1) 3 (.int .i64 mny)
  xr : Bx1 E (w.heap.size + 2) 4 (.bool false)
theorem qE_facts (w : World) (wt : Bool) (bu hi me lo mny : Int) : QE w wt bu hi me lo mny (qE w wt bu hi me lo mny) := by
  have h1 := CfgAt.new w wt bu hi me lo
  have h2 := Bx1.new (w.alloc (.cells #[.bool wt, .int .i64 bu, .int .i64 hi, .int .i64 me, .int .i64 lo] 23)) 3 (.int .i64 mny)
  have h3 := Bx1.new ((w.alloc (.cells #[.bool wt, .int .i64 bu, .int .i64 hi, .int .i64 me, .int .i64 lo] 23)).alloc (.cells #[.int .i64 mny] 3)) 4 (.bool false)
  simp only [World.size_alloc] at h2 h3
  exact ⟨by simp [qE], ((below_alloc w _).alloc (by simp) _).alloc (by simp; omega) _, (h1.below (below_alloc _ _)).below (below_alloc _ _), h2.below (below_alloc _ _), h3⟩
theorem QE.bad {w E : World} {wt : Bool} {bu hi me lo mny : Int} (h : QE w wt bu hi me lo mny E) {W : World} (hb : Below E.heap.size E W) {n : Nat} {tmps : Array Value} (ht : tmps.getD 6 undef = .pointer (some ⟨w.heap.size + 1 + 1, 0, none⟩)) :
    LeavesInM Fence.wide n Try.prog Try.f7 tmps (OkPost w) [] .returning (W.setCell ⟨w.heap.size + 1 + 1, 0, none⟩ (.bool true)) :=
  law_true (Ds := []) (q := w.heap.size + 1 + 1) (v0 := .bool false) ⟨List.nodup_nil, fun D h => by cases h⟩ (h.below.trans (hb.mono (by have := h.size; omega))) (h.xr.below hb) (by omega) fun W' h => res7 W' _ _ ht h
theorem queues_bad (wt : Bool) (bu hi me lo : Int) (A : Option Addr) (n c : Nat) (mny : Int) (w : World) (hv : valB wt bu hi me lo = false) :
    Calls Try.prog 7 #[.agg #[.bool wt, .int .i64 bu, .int .i64 hi, .int .i64 me, .int .i64 lo], .slice A n c, .int .i64 mny] w (OkPost w) := by
  have HE := Lib.hid (qE_facts w wt bu hi me lo mny)
  obtain ⟨k0, k1, k2, k3, k4⟩ := HE.out.cfg.cells
  refine (callsIn_wide (n := 12)).1 ?_
  refine callsIn_of_wp_marks Try.func7 rfl trivial ?_ rfl
  refine wpIn_wide.2 ?_
  simp only [Try.ntmps7, List.size_toArray, List.length_cons, List.length_nil, Nat.reduceAdd, Nat.reduceSub, Array.replicate_succ, Array.replicate_zero, List.push_toArray, List.append_toArray, List.nil_append, List.cons_append]
  go_upto_region 1 with fail
  rw [show ((w.alloc (.cells #[.bool wt, .int .i64 bu, .int .i64 hi, .int .i64 me, .int .i64 lo] 23)).alloc (.cells #[.int .i64 mny] 3)).alloc (.cells #[.bool false] 4) = qE w wt bu hi me lo mny from rfl]
  generalize qE w wt bu hi me lo mny = E at *
  go_wp2_with (first
    | (go_at_call 10; refine (New_bad wt bu hi me lo _ hv).mono ?_; rintro e w1 ⟨rfl, hb1⟩; have HB1 := Lib.hid hb1; clear hb1)
    | (go_at_call 12; refine (known_any _).mono ?_; rintro e w2 ⟨rfl, hb2⟩; have HB2 := Lib.hid (HB1.out.trans (hb2.mono HB1.out.size)); have c8 := (HE.out.xr.below HB2.out).cell; have f8 := (HE.out.xr.below HB2.out).free; clear hb2))
  exact HE.out.bad HB2.out rfl
theorem queues_long (wt : Bool) (bu hi me lo : Int) (A : Option Addr) (n c : Nat) (mny : Int) (w : World) (hv : valB wt bu hi me lo = true) (hn : 30 < n) :
    Calls Try.prog 7 #[.agg #[.bool wt, .int .i64 bu, .int .i64 hi, .int .i64 me, .int .i64 lo], .slice A n c, .int .i64 mny] w (OkPost w) := by
  have HE := Lib.hid (qE_facts w wt bu hi me lo mny)
  have hn1 : (30 : Int) < n := by omega
  obtain ⟨k0, k1, k2, k3, k4⟩ := HE.out.cfg.cells
  refine (callsIn_wide (n := 12)).1 ?_
  refine callsIn_of_wp_marks Try.func7 rfl trivial ?_ rfl
  refine wpIn_wide.2 ?_
  simp only [Try.ntmps7, List.size_toArray, List.length_cons, List.length_nil, Nat.reduceAdd, Nat.reduceSub, Array.replicate_succ, Array.replicate_zero, List.push_toArray, List.append_toArray, List.nil_append, List.cons_append]
  go_upto_region 1 with fail
  rw [show ((w.alloc (.cells #[.bool wt, .int .i64 bu, .int .i64 hi, .int .i64 me, .int .i64 lo] 23)).alloc (.cells #[.int .i64 mny] 3)).alloc (.cells #[.bool false] 4) = qE w wt bu hi me lo mny from rfl]
  generalize qE w wt bu hi me lo mny = E at *
  go_wp2_with (first
    | (go_at_call 10; refine (New_ok wt bu hi me lo _ hv).mono ?_; rintro e w1 ⟨ba, ma, rfl, hA, hba, hma, hb1⟩; have HB1 := Lib.hid hb1; clear hb1)
    | (go_at_call 12; refine (known_any _).mono ?_; rintro e w2 ⟨rfl, hb2⟩; have HB2 := Lib.hid (HB1.out.trans (hb2.mono HB1.out.size)); have c8 := (HE.out.xr.below HB2.out).cell; have f8 := (HE.out.xr.below HB2.out).free; clear hb2))
  exact HE.out.bad HB2.out rfl
theorem pref_snoc {L : List (Int × Int)} {pre : List QC} (h : pre.map (·.1) <+: L) (hk : pre.length < L.length) (x : QC) : ((pre ++ [x]).map (·.1) <+: L) ↔ x.1 = L[pre.length] := by
  have e1 : pre.map (·.1) = L.take pre.length := by have := List.prefix_iff_eq_take.1 h; rwa [List.length_map] at this
  have e2 : L.take (pre.length + 1) = L.take pre.length ++ [L[pre.length]] := List.take_succ_eq_append_getElem hk
  rw [List.prefix_iff_eq_take, List.length_map, List.length_append, List.length_singleton, e2, List.map_append, e1]
  constructor
  · intro e
    have := List.append_cancel_left e
    simpa using this
  · intro e
    simp [e]
theorem pref_nil (L : List (Int × Int)) : ([] : List QC).map (·.1) <+: L := List.nil_prefix
theorem Lds.at {W : World} {A : Option Addr} {n c : Nat} {L : List (Int × Int)} (h : Lds W (.slice A n c) L) (k : Nat) (hk : k < L.length) : ∃ g o, A = some ⟨g, o, none⟩ ∧ n = L.length ∧ W.cell? ⟨g, o + k * 2, none⟩ = some (.int .i64 L[k].1) ∧ W.cell? ⟨g, o + k * 2 + 1, none⟩ = some (.int .i64 L[k].2) := by
  obtain ⟨A1, c1, e, _, hr⟩ := h
  injection e with e1 e2 e3
  obtain ⟨g, o, e4, _, hc⟩ := hr (by omega)
  exact ⟨g, o, by rw [e1, e4], e2, (hc k hk).1, (hc k hk).2⟩
/-- Within a loop over the iterator: the variables for the turn and for the count. -/
structure RI (w B : World) (tb nb : Nat) (t : Int) (Ds : List Nat) (k : Nat) (W : World) : Prop where
  below : Below B.heap.size B W
  xt : Bx1 W tb 3 (.int .i64 t)
  xn : Bx1 W nb 3 (.int .i64 (k : Int))
  mks : Marks w.heap.size Ds W
theorem RI.set {w B W : World} {tb nb k : Nat} {t : Int} {Ds : List Nat} (h : RI w B tb nb t Ds k W) (h1 : B.heap.size ≤ nb) (hne : tb ≠ nb) : RI w B tb nb t Ds (k + 1) (W.setCell ⟨nb, 0, none⟩ (.int .i64 ((k : Int) + 1))) := by
  have hc : Chg (· = nb) W (W.setCell ⟨nb, 0, none⟩ (.int .i64 ((k : Int) + 1))) := (Chg.refl (· = nb) W).setCell rfl _
  refine ⟨h.below.setCell h1 _, h.xt.chg hc hne, ?_, h.mks.chg hc fun i hi o ho => ?_⟩
  · have := heap_setCell_same W nb 0 _ 3 (.int .i64 ((k : Int) + 1)) h.xn
    rw [show (((k + 1 : Nat) : Int)) = (k : Int) + 1 by omega]
    exact this
  · subst hi
    rw [show W.heap[i]? = _ from h.xn] at ho
    cases ho
    rfl
theorem own_ri {β : Type} {w B : World} {tb nb N : Nat} {t : Int} {Ds : List Nat} (f : β → Nat) (hB : B.heap.size ≤ N) (hD : ∀ D ∈ Ds, D < N) : OwnFrom N (fun s W => RI w B tb nb t Ds (f s) W) := fun s X Y row hs hg hr =>
  ⟨ownFrom_below (Nat.le_refl _) hB () X Y row hs.below hg hr, own_bx _ () X Y row hs.xt hg hr, own_bx _ () X Y row hs.xn hg hr, own_marks hD () X Y row hs.mks hg hr⟩
theorem RI.start {w B : World} {Ds : List Nat} (t : Int) (hm : Marks w.heap.size Ds B) : RI w B B.heap.size (B.heap.size + 1) t Ds 0 ((B.alloc (.cells #[.int .i64 t] 3)).alloc (.cells #[.int .i64 0] 3)) := by
  have h2 := Bx1.new (B.alloc (.cells #[.int .i64 t] 3)) 3 (.int .i64 0)
  rw [World.size_alloc] at h2
  exact ⟨(below_alloc B _).alloc (by simp) _, (Bx1.new B 3 _).below (below_alloc _ _), h2, (hm.below (below_alloc _ _)).below (below_alloc _ _)⟩
theorem RI.start2 {w B : World} {Ds : List Nat} (t t' : Int) (hm : Marks w.heap.size Ds B) : RI w B B.heap.size (B.heap.size + 1) t Ds 0 (((B.alloc (.cells #[.int .i64 t'] 3)).setCell ⟨B.heap.size, 0, none⟩ (.int .i64 t)).alloc (.cells #[.int .i64 0] 3)) := by
  have h1 := Bx1.new B 3 (.int .i64 t')
  have hb := (below_alloc B (.cells #[.int .i64 t'] 3))
  have hb2 := hb.setCell (p := ⟨B.heap.size, 0, none⟩) (Nat.le_refl _) (.int .i64 t)
  have hs := heap_setCell_same _ B.heap.size 0 _ 3 (.int .i64 t) h1
  have h2 := Bx1.new ((B.alloc (.cells #[.int .i64 t'] 3)).setCell ⟨B.heap.size, 0, none⟩ (.int .i64 t)) 3 (.int .i64 0)
  have hz : ((B.alloc (.cells #[.int .i64 t'] 3)).setCell ⟨B.heap.size, 0, none⟩ (.int .i64 t)).heap.size = B.heap.size + 1 := by simp [World.setCell]
  rw [hz] at h2
  exact ⟨hb2.alloc hb2.size _, Bx1.below (W := (B.alloc (.cells #[.int .i64 t'] 3)).setCell ⟨B.heap.size, 0, none⟩ (.int .i64 t)) hs (below_alloc _ _), h2, (hm.below hb2).below (below_alloc _ _)⟩
end Go.Proofs.Ytildofclgofjdaa
