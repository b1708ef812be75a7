/- PoolNone with the zero pool. Conditions stand in each theorem. -/
import Derived.Test.YtpojgjbgbbnojaaNB
namespace Go.Proofs.Ytpojgjbgbbnojaa
open Go.RowKit Go.Shelf
attribute [local go_sem] Oper.semAt_some
set_option linter.unusedVariables false
set_option maxHeartbeats 8000000
set_option maxRecDepth 100000
theorem none_zero (x : KA) (w : World) : Calls Try.prog 5 #[.agg #[.int .i64 x.wh, .int .i64 x.bl, .int .i64 x.st, .int .i64 x.er], .bool true] w (OkB w) := by
  have hqn := fun (W : World) (f : Fn) (x y : Array Value) => run_eql_func_nil (P := Try.prog) W 42 f x y Try.underlying42
  have f8 : Fence.wide.fn 8 := trivial
  have f14 : Fence.wide.fn 14 := trivial
  have f17 : Fence.wide.fn 17 := trivial
  have f18 : Fence.wide.fn 18 := trivial
  have f19 : Fence.wide.fn 19 := trivial
  have HE := Lib.hid (zE_ns w x)
  refine (callsIn_wide (n := 9)).1 ?_
  refine callsIn_of_wp_marks Try.func5 rfl trivial ?_ rfl
  simp only [Try.ntmps5, List.size_toArray, List.length_cons, List.length_nil, Nat.reduceAdd, Nat.reduceSub, Array.replicate_succ, Array.replicate_zero, List.push_toArray, List.append_toArray, List.nil_append, List.cons_append]
  gi_wp2_with fail
  rw [show ((w.alloc (.cells #[.int .i64 x.wh, .int .i64 x.bl, .int .i64 x.st, .int .i64 x.er] 37)).alloc (.cells #[.bool false] 4)).alloc (.cells #[.slice none 0 0, .int .i64 0, .int .i64 0, .int .i64 0, .int .i64 0, .int .i64 0] 51) = zE w x from rfl]
  generalize zE w x = E at *
  gi_wp2_with (first
    | (gi_at_call 17; have hcc := (callsIn_wide (n := 8)).2 (Take_ms HE.out.ms); (with_reducible refine hcc.mono ?_); clear hcc; rintro e W1 ⟨rfl, hb⟩; have H1 := Lib.hid (HE.out.below hb); clear hb)
    | (gi_at_call 18; have hcc := (callsIn_wide (n := 8)).2 (Cold_ms H1.out.ms); (with_reducible refine hcc.mono ?_); clear hcc; rintro e W2 ⟨rfl, hb⟩; have H2 := Lib.hid (H1.out.below hb); have k22 := H2.out.c2; clear hb)
    | (gi_at_call 19; have hcc := (callsIn_wide (n := 8)).2 (Spread_ms H2.out.ms); (with_reducible refine hcc.mono ?_); clear hcc; rintro e w' ⟨rfl, rfl⟩)
    | (gi_at_call 14; have hcc := (callsIn_wide (n := 8)).2 (Blocks_ms H2.out.ms x.st); (with_reducible refine hcc.mono ?_); clear hcc; rintro e W3 ⟨B5, B3, rfl, hb, hy⟩; have H3 := Lib.hid (H2.out.below hb); have HY := Lib.hid (fun B' => hy B' _ (Below.refl _ _)); clear hb hy))
  refine range_asg (gf := 39) (fun x y t => (t.setIfInBounds 38 x).setIfInBounds 39 y) rfl (enters_of Try.func39 (by kernel_rfl) rfl) (HY.out _)
    (fun j W' => NS w x (.pointer (some ⟨w.heap.size + 1 + 1, 0, none⟩)) W') (fun cd j W' => False) (own_ns (by have := H3.out.be.size; omega)) (fun cd j X Y row hs hg hr => hs) H3.out ?assign ?body ?done ?stop
  case assign =>
    intro l'' j W' K' hK'
    gi_wp2
    exact hK'
  case body =>
    rintro l'' j hj W' _
    exact absurd hj (by simp [fl, enum])
  case stop =>
    rintro D cd j W7 hD hj hf
    exact hf.elim
  case done =>
    rintro D W7 hD hns hd
    have hbd : Below W7.heap.size W7 W7.drew := below_drewN W7 1
    have HN := Lib.hid (hns.below hbd)
    have HMk := Lib.hid (mark2 (w := w) (by have := H3.out.be.size; omega) ((hbd.block D (Array.getElem?_eq_some_iff.1 hd).1).trans hd))
    clear hns hbd hd HE H1 H2 H3 HY k22
    gi_wp2_with fail
    simp only [List.append]
    refine wpIn_wide.2 ?_
    refine wp_region_still_tail 78 (by kernel_rfl) (by kernel_rfl) ?_
    simp only [List.take_succ_cons, List.take_zero, List.drop_succ_cons, List.drop_zero]
    rw [show ({ W7 with drawn := W7.drawn + 1 } : World) = W7.drew from rfl]
    generalize W7.drew = V at *
    have k0 := HN.out.c0
    have k1 := HN.out.c1
    have k2 := HN.out.c2
    have k3 := HN.out.c3
    have G20 := Lib.hid (same_of (Close_ms HN.out.ms x.bl))
    have G21 := Lib.hid (same_of (Release_ms HN.out.ms x.bl))
    have G22 := Lib.hid (same_of (Retire_ms HN.out.ms x.bl))
    have G23 := Lib.hid (same_of (Set_ms HN.out.ms x.bl x.st x.er))
    have G24 := Lib.hid (same_of (State_ms HN.out.ms x.bl))
    have G25 := Lib.hid (same_of (Erases_ms HN.out.ms x.bl))
    have G26 := Lib.hid (same_of (Count_ms HN.out.ms x.st))
    have G16 := Lib.hid (same_of (Copy_ms HN.out.ms))
    have G11 := Lib.hid (same_of (num_any 1 V))
    repeat (first | still_step | still_call G11.out | still_call G20.out | still_call G21.out | still_call G22.out | still_call G23.out | still_call G24.out | still_call G25.out | still_call G26.out | still_call G16.out)
    refine wpStill_nil ?_
    go_wp2_with ((go_at_call 8; with_reducible refine (works_any V).mono ?_); rintro e W8 ⟨rfl, hb⟩; have H8 := Lib.hid (HN.out.below hb); have HM8 := Lib.hid (HMk.out.below hb); have c8 := H8.out.xb.cell; have f8' := H8.out.xb.free; clear hb)
    gi_wp2
    exact law_true (q := w.heap.size + 1) HM8.out H8.out.be H8.out.xb (by omega) fun W' h => res5 W' _ _ rfl h
theorem none_any (x : KA) (v0 : Value) (b : Bool) (w : World) (h : v0 = x.v) : Calls Try.prog 5 #[v0, .bool b] w (OkB w) := by
  subst h
  cases b
  · exact none_nil x w
  · exact none_zero x w
end Go.Proofs.Ytpojgjbgbbnojaa
