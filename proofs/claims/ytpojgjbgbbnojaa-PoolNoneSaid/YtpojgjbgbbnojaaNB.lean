/- The walk of PoolNone. Conditions stand in each theorem. -/
import Derived.Test.YtpojgjbgbbnojaaNA
import Derived.Test.YtpojgjbgbbnojaaVL
import Derived.StillTailTactics
namespace Go.Proofs.Ytpojgjbgbbnojaa
open Go.RowKit Go.Shelf
attribute [local go_sem] Oper.semAt_some
set_option linter.unusedVariables false
set_option maxHeartbeats 8000000
set_option maxRecDepth 100000
theorem res5 (W' : World) (q : Nat) (tm : Array Value) (htm : tm.getD 4 undef = .pointer (some ⟨q, 0, none⟩)) (h : W'.cell? ⟨q, 0, none⟩ = some (.bool true)) : (results Try.f5 tm).run Try.prog W' = .ok (.bool true) W' := by
  have e : tm[4]?.getD undef = .pointer (some ⟨q, 0, none⟩) := by simpa using htm
  simp [results, Try.results5, go_sem, h, e]
theorem same_of {f : Nat} {args : Array Value} {w : World} {v : Value} (h : Calls Try.prog f args w fun e w' => e = .returned v ∧ w = w') : Calls Try.prog f args w (fun e w'' => e = .returned v ∧ w'' = w) := h.mono fun e w' ⟨a, b⟩ => ⟨a, b.symm⟩
theorem mark2 {w W : World} {D : Nat} (hD : w.heap.size ≤ D) (hd : W.heap[D]? = some (.deferred (some []))) : Marks w.heap.size [D] W :=
  ⟨by simp, fun k hk => by rw [List.mem_singleton.1 hk]; exact ⟨hD, hd⟩⟩
/-- The state of PoolNone: the box of its argument, the box of its result, a pool without blocks. -/
structure NS (w : World) (x : KA) (v : Value) (W : World) : Prop where
  be : Below w.heap.size w W
  xa : W.heap[w.heap.size]? = some (.cells #[.int .i64 x.wh, .int .i64 x.bl, .int .i64 x.st, .int .i64 x.er] 37 (0, 0))
  xb : Bx1 W (w.heap.size + 1) 4 (.bool false)
  mz : v = .pointer none ∨ ∃ b, v = .pointer (some ⟨b, 0, none⟩) ∧ W.heap[b]? = some (.cells #[.slice none 0 0, .int .i64 0, .int .i64 0, .int .i64 0, .int .i64 0, .int .i64 0] 51 (0, 0))
section
variable {w W W' : World} {x : KA} {v : Value}
theorem NS.ms (h : NS w x v W) : Ms W v := by
  rcases h.mz with rfl | ⟨b, rfl, hb⟩
  · exact .inl rfl
  · exact .inr ⟨b, rfl, cell_of_row W b 0 _ 51 (0, 0) hb⟩
theorem NS.c0 (h : NS w x v W) : W.cell? ⟨w.heap.size, 0, none⟩ = some (.int .i64 x.wh) := cell_of_row W _ 0 _ 37 (0, 0) h.xa
theorem NS.c1 (h : NS w x v W) : W.cell? ⟨w.heap.size, 1, none⟩ = some (.int .i64 x.bl) := cell_of_row W _ 1 _ 37 (0, 0) h.xa
theorem NS.c2 (h : NS w x v W) : W.cell? ⟨w.heap.size, 2, none⟩ = some (.int .i64 x.st) := cell_of_row W _ 2 _ 37 (0, 0) h.xa
theorem NS.c3 (h : NS w x v W) : W.cell? ⟨w.heap.size, 3, none⟩ = some (.int .i64 x.er) := cell_of_row W _ 3 _ 37 (0, 0) h.xa
theorem NS.below (h : NS w x v W) (hb : Below W.heap.size W W') : NS w x v W' :=
  ⟨h.be.trans (hb.mono h.be.size), (hb.block _ (Array.getElem?_eq_some_iff.1 h.xa).1).trans h.xa, h.xb.below hb, h.mz.imp id fun ⟨b, e, hk⟩ => ⟨b, e, (hb.block _ (Array.getElem?_eq_some_iff.1 hk).1).trans hk⟩⟩
theorem own_rw5 {β : Type} {q : Nat} {cs : Array Value} {t : TypeId} {fr : Nat × Nat} (B : Nat) : OwnFrom B (fun (_ : β) W => W.heap[q]? = some (.cells cs t fr)) := fun k X Y row hs hg hr =>
  (hg.block q (Array.getElem?_eq_some_iff.1 hs).1 fun e => by
    obtain ⟨o, ho, hc⟩ := (hr q e.symm).2
    rw [hs] at ho; cases ho; cases hc).trans hs
theorem own_ns {β : Type} {B : Nat} (hB : w.heap.size ≤ B) : OwnFrom B (fun (_ : β) W => NS w x v W) := fun k X Y row hs hg hr =>
  ⟨ownFrom_below (Nat.le_refl _) hB () X Y row hs.be hg hr, own_rw5 _ () X Y row hs.xa hg hr, own_bx _ () X Y row hs.xb hg hr, hs.mz.imp id fun ⟨b, e, hk⟩ => ⟨b, e, own_rw5 _ () X Y row hk hg hr⟩⟩
end
def nE (w : World) (x : KA) : World := (w.alloc (.cells #[.int .i64 x.wh, .int .i64 x.bl, .int .i64 x.st, .int .i64 x.er] 37)).alloc (.cells #[.bool false] 4)
def zE (w : World) (x : KA) : World := (nE w x).alloc (.cells #[.slice none 0 0, .int .i64 0, .int .i64 0, .int .i64 0, .int .i64 0, .int .i64 0] 51)
theorem nE_ns (w : World) (x : KA) : NS w x (.pointer none) (nE w x) := by
  have b1 := below_alloc w (.cells #[.int .i64 x.wh, .int .i64 x.bl, .int .i64 x.st, .int .i64 x.er] 37)
  have h1 := heap_alloc_new w (.cells #[.int .i64 x.wh, .int .i64 x.bl, .int .i64 x.st, .int .i64 x.er] 37)
  unfold nE
  have x5 := Bx1.new (w.alloc (.cells #[.int .i64 x.wh, .int .i64 x.bl, .int .i64 x.st, .int .i64 x.er] 37)) 4 (.bool false)
  rw [World.size_alloc] at x5
  exact ⟨b1.alloc (by simp) _, ((below_alloc _ _).block _ (by simp)).trans h1, x5, .inl rfl⟩
theorem zE_ns (w : World) (x : KA) : NS w x (.pointer (some ⟨w.heap.size + 1 + 1, 0, none⟩)) (zE w x) := by
  have h := (nE_ns w x).below (below_alloc (nE w x) (.cells #[.slice none 0 0, .int .i64 0, .int .i64 0, .int .i64 0, .int .i64 0, .int .i64 0] 51))
  have h1 := heap_alloc_new (nE w x) (.cells #[.slice none 0 0, .int .i64 0, .int .i64 0, .int .i64 0, .int .i64 0, .int .i64 0] 51)
  have hz : (nE w x).heap.size = w.heap.size + 1 + 1 := by simp [nE]
  rw [hz] at h1
  exact ⟨h.be, h.xa, h.xb, .inr ⟨_, rfl, h1⟩⟩
theorem none_nil (x : KA) (w : World) : Calls Try.prog 5 #[.agg #[.int .i64 x.wh, .int .i64 x.bl, .int .i64 x.st, .int .i64 x.er], .bool false] w (OkB w) := by
  have hqn := fun (W : World) (f : Fn) (x y : Array Value) => run_eql_func_nil (P := Try.prog) W 42 f x y Try.underlying42
  have f8 : Fence.wide.fn 8 := trivial
  have f14 : Fence.wide.fn 14 := trivial
  have f17 : Fence.wide.fn 17 := trivial
  have f18 : Fence.wide.fn 18 := trivial
  have f19 : Fence.wide.fn 19 := trivial
  have HE := Lib.hid (nE_ns w x)
  refine (callsIn_wide (n := 9)).1 ?_
  refine callsIn_of_wp_marks Try.func5 rfl trivial ?_ rfl
  simp only [Try.ntmps5, List.size_toArray, List.length_cons, List.length_nil, Nat.reduceAdd, Nat.reduceSub, Array.replicate_succ, Array.replicate_zero, List.push_toArray, List.append_toArray, List.nil_append, List.cons_append]
  gi_wp2_with fail
  rw [show (w.alloc (.cells #[.int .i64 x.wh, .int .i64 x.bl, .int .i64 x.st, .int .i64 x.er] 37)).alloc (.cells #[.bool false] 4) = nE w x from rfl]
  generalize nE w x = E at *
  gi_wp2_with (first
    | (gi_at_call 17; have hcc := (callsIn_wide (n := 8)).2 (Take_ms HE.out.ms); (with_reducible refine hcc.mono ?_); clear hcc; rintro e W1 ⟨rfl, hb⟩; have H1 := Lib.hid (HE.out.below hb); clear hb)
    | (gi_at_call 18; have hcc := (callsIn_wide (n := 8)).2 (Cold_ms H1.out.ms); (with_reducible refine hcc.mono ?_); clear hcc; rintro e W2 ⟨rfl, hb⟩; have H2 := Lib.hid (H1.out.below hb); have k22 := H2.out.c2; clear hb)
    | (gi_at_call 19; have hcc := (callsIn_wide (n := 8)).2 (Spread_ms H2.out.ms); (with_reducible refine hcc.mono ?_); clear hcc; rintro e w' ⟨rfl, rfl⟩)
    | (gi_at_call 14; have hcc := (callsIn_wide (n := 8)).2 (Blocks_ms H2.out.ms x.st); (with_reducible refine hcc.mono ?_); clear hcc; rintro e W3 ⟨B5, B3, rfl, hb, hy⟩; have H3 := Lib.hid (H2.out.below hb); have HY := Lib.hid (fun B' => hy B' _ (Below.refl _ _)); clear hb hy))
  refine range_asg (gf := 39) (fun x y t => (t.setIfInBounds 38 x).setIfInBounds 39 y) rfl (enters_of Try.func39 (by kernel_rfl) rfl) (HY.out _)
    (fun j W' => NS w x (.pointer none) W') (fun cd j W' => False) (own_ns (by have := H3.out.be.size; omega)) (fun cd j X Y row hs hg hr => hs) H3.out ?assign ?body ?done ?stop
  case assign =>
    intro l'' j W' K' hK'
    gi_wp2
    exact hK'
  case body =>
    rintro l'' j hj W' _
    exact absurd hj (by simp [fl, enum])
  case stop =>
    rintro D cd j W7 hD hj hf
    exact hf.elim
  case done =>
    rintro D W7 hD hns hd
    have hbd : Below W7.heap.size W7 W7.drew := below_drewN W7 1
    have HN := Lib.hid (hns.below hbd)
    have HMk := Lib.hid (mark2 (w := w) (by have := H3.out.be.size; omega) ((hbd.block D (Array.getElem?_eq_some_iff.1 hd).1).trans hd))
    clear hns hbd hd HE H1 H2 H3 HY k22
    gi_wp2_with fail
    simp only [List.append]
    refine wpIn_wide.2 ?_
    refine wp_region_still_tail 78 (by kernel_rfl) (by kernel_rfl) ?_
    simp only [List.take_succ_cons, List.take_zero, List.drop_succ_cons, List.drop_zero]
    rw [show ({ W7 with drawn := W7.drawn + 1 } : World) = W7.drew from rfl]
    generalize W7.drew = V at *
    have k0 := HN.out.c0
    have k1 := HN.out.c1
    have k2 := HN.out.c2
    have k3 := HN.out.c3
    have G20 := Lib.hid (same_of (Close_ms HN.out.ms x.bl))
    have G21 := Lib.hid (same_of (Release_ms HN.out.ms x.bl))
    have G22 := Lib.hid (same_of (Retire_ms HN.out.ms x.bl))
    have G23 := Lib.hid (same_of (Set_ms HN.out.ms x.bl x.st x.er))
    have G24 := Lib.hid (same_of (State_ms HN.out.ms x.bl))
    have G25 := Lib.hid (same_of (Erases_ms HN.out.ms x.bl))
    have G26 := Lib.hid (same_of (Count_ms HN.out.ms x.st))
    have G16 := Lib.hid (same_of (Copy_ms HN.out.ms))
    have G11 := Lib.hid (same_of (num_any 1 V))
    repeat (first | still_step | still_call G11.out | still_call G20.out | still_call G21.out | still_call G22.out | still_call G23.out | still_call G24.out | still_call G25.out | still_call G26.out | still_call G16.out)
    refine wpStill_nil ?_
    go_wp2_with ((go_at_call 8; with_reducible refine (works_any V).mono ?_); rintro e W8 ⟨rfl, hb⟩; have H8 := Lib.hid (HN.out.below hb); have HM8 := Lib.hid (HMk.out.below hb); have c8 := H8.out.xb.cell; have f8' := H8.out.xb.free; clear hb)
    gi_wp2
    exact law_true (q := w.heap.size + 1) HM8.out H8.out.be H8.out.xb (by omega) fun W' h => res5 W' _ _ rfl h
end Go.Proofs.Ytpojgjbgbbnojaa
