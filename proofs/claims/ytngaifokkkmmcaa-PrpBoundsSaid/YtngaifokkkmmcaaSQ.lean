/- Spans: its mathematics, its closures, the contracts of requireTransfer and numbered. Conditions stand in each theorem. -/
import Derived.Test.YtngaifokkkmmcaaSP
namespace Go.Proofs.Ytngaifokkkmmcaa
open Go.RowKit
set_option linter.unusedVariables false
set_option maxHeartbeats 2000000
set_option maxRecDepth 100000
theorem req1_yB (q : Int) (W : World) : Calls Try.prog 35 #[.int .i64 q, .slice (some ⟨W.heap.size, 0, none⟩) 1 1] (W.alloc (.cells #[.bool true] 4)) fun e w' => e = .returned (.tuple #[]) ∧ Below W.heap.size W w' := (req1_y q W).mono fun e w' h => ⟨h.1, h.2 ▸ below_alloc _ _⟩
theorem req1_nB (q : Int) (W : World) : Calls Try.prog 35 #[.int .i64 q, .slice (some ⟨W.heap.size, 0, none⟩) 1 1] (W.alloc (.cells #[.bool false] 4)) fun e w' => e = Pan q ∧ Below W.heap.size W w' := (req1_n q W).mono fun e w' h => ⟨h.1, h.2 ▸ below_alloc _ _⟩
theorem req2_yB (q : Int) (W : World) : Calls Try.prog 35 #[.int .i64 q, .slice (some ⟨W.heap.size, 0, none⟩) 2 2] (W.alloc (.cells #[.bool true, .bool true] 4)) fun e w' => e = .returned (.tuple #[]) ∧ Below W.heap.size W w' := (req2_y q W).mono fun e w' h => ⟨h.1, h.2 ▸ below_alloc _ _⟩
theorem req2_nB (q : Int) (x y : Bool) (h0 : (x && y) = false) (W : World) : Calls Try.prog 35 #[.int .i64 q, .slice (some ⟨W.heap.size, 0, none⟩) 2 2] (W.alloc (.cells #[.bool x, .bool y] 4)) fun e w' => e = Pan q ∧ Below W.heap.size W w' := (req2_n q x y h0 W).mono fun e w' h => ⟨h.1, h.2 ▸ below_alloc _ _⟩
section
variable {w : World} {base b d cap : Nat} {m : Mm}
theorem reqT_ok (h : Mem w base b d cap m) (hG : Gm m) (n : Int) (h0 : 0 ≤ n) (h1 : n ≤ 1048576) : Calls Try.prog 34 #[.pointer (some ⟨b, 0, none⟩), .int .i64 n] w fun e w' => e = .returned (.tuple #[]) ∧ Below w.heap.size w w' := by
  have HS := Lib.hid (Size_any h)
  have d0 : decide ((m.B.length : Int) > 0) = true := decide_eq_true (by have := hG.pos; omega)
  have d0' : decide ((0 : Int) < (m.B.length : Int)) = true := decide_eq_true (by have := hG.pos; omega)
  have d0'' : decide (0 < m.B.length) = true := decide_eq_true hG.pos
  have d1 : decide (n ≥ 0) = true := decide_eq_true h0
  have d1' : decide (0 ≤ n) = true := decide_eq_true h0
  have d2 : decide (n ≤ 1048576) = true := decide_eq_true h1
  have HR1 := Lib.hid (req1_yB 1)
  have HR2 := Lib.hid (req2_yB 2)
  clear h hG
  generalize m.B.length = N at *
  go_enter Try.func34, Try.ntmps34
  go_wp2_with ((go_at_call 14; with_reducible refine HS.out.mono ?_); rintro e w' ⟨rfl, rfl⟩)
  refine (HR1.out _).mono ?_
  rintro e w1 ⟨rfl, hb⟩
  have HB1 := Lib.hid hb
  clear hb
  go_wp2_with fail
  refine (HR2.out _).mono ?_
  rintro e w2 ⟨rfl, hb⟩
  have HB2 := Lib.hid (HB1.out.trans (hb.mono HB1.out.size))
  clear hb
  go_wp2
  go_end0
  exact ⟨rfl, HB2.out⟩
theorem reqT_bad (h : Mem w base b d cap m) (hG : Gm m) (n : Int) (h0 : ¬ (0 ≤ n ∧ n ≤ 1048576)) : Calls Try.prog 34 #[.pointer (some ⟨b, 0, none⟩), .int .i64 n] w fun e w' => e = Pan 2 ∧ Below w.heap.size w w' := by
  have HS := Lib.hid (Size_any h)
  have d0 : decide ((m.B.length : Int) > 0) = true := decide_eq_true (by have := hG.pos; omega)
  have d0' : decide ((0 : Int) < (m.B.length : Int)) = true := decide_eq_true (by have := hG.pos; omega)
  have d0'' : decide (0 < m.B.length) = true := decide_eq_true hG.pos
  have HR1 := Lib.hid (req1_yB 1)
  have hx : (decide (n ≥ 0) && decide (n ≤ 1048576)) = false := by
    by_cases q : 0 ≤ n
    · have : decide (n ≤ 1048576) = false := decide_eq_false (by omega)
      rw [this, Bool.and_false]
    · have : decide (n ≥ 0) = false := decide_eq_false (by omega)
      rw [this, Bool.false_and]
  have HR2 := Lib.hid (req2_nB 2 _ _ hx)
  have e1 : decide (n ≥ 0) = decide (0 ≤ n) := rfl
  rw [e1] at HR2
  clear h hG hx
  generalize m.B.length = N at *
  generalize hb1 : decide (0 ≤ n) = b1 at *
  generalize hb2 : decide (n ≤ 1048576) = b2 at *
  go_enter Try.func34, Try.ntmps34
  go_wp2_with ((go_at_call 14; with_reducible refine HS.out.mono ?_); rintro e w' ⟨rfl, rfl⟩)
  refine (HR1.out _).mono ?_
  rintro e w1 ⟨rfl, hb⟩
  have HB1 := Lib.hid hb
  clear hb
  go_wp2_with fail
  refine (HR2.out _).mono ?_
  rintro e w2 ⟨rfl, hb⟩
  have HB2 := Lib.hid (HB1.out.trans (hb.mono HB1.out.size))
  clear hb
  exact ⟨rfl, rfl, HB2.out⟩
end
theorem numbered47_any (N : Int) (gw : Nat) (w : World) : Calls Try.prog 47 #[.int .i64 N, .func (.func 48) #[.pointer (some ⟨gw, 0, none⟩)] #[]] w fun e w' => e = .returned (.func (.func 63) #[] #[.pointer (some ⟨w.heap.size, 0, none⟩), .pointer (some ⟨w.heap.size + 1, 0, none⟩)]) ∧ w' = (w.alloc (.cells #[.int .i64 N] 3)).alloc (.cells #[.func (.func 48) #[.pointer (some ⟨gw, 0, none⟩)] #[]] 96) := by
  refine (callsIn_wide (n := 9)).1 ?_
  refine callsIn_of_wp_marks Try.func47 rfl trivial ?_ rfl
  simp only [Try.ntmps47, List.size_toArray, List.length_cons, List.length_nil, Nat.reduceAdd, Nat.reduceSub, Array.replicate_succ, Array.replicate_zero, List.push_toArray, List.append_toArray, List.nil_append, List.cons_append]
  gi_wp2
  exact ⟨_, results_tmp rfl _ _ _, rfl, rfl⟩
theorem numbered28_any (N : Int) (q : Nat) (w : World) : Calls Try.prog 28 #[.int .i64 N, .func (.func 29) #[] #[.pointer (some ⟨q, 0, none⟩)]] w fun e w' => e = .returned (.func (.func 56) #[] #[.pointer (some ⟨w.heap.size, 0, none⟩), .pointer (some ⟨w.heap.size + 1, 0, none⟩)]) ∧ w' = (w.alloc (.cells #[.int .i64 N] 3)).alloc (.cells #[.func (.func 29) #[] #[.pointer (some ⟨q, 0, none⟩)]] 74) := by
  refine (callsIn_wide (n := 9)).1 ?_
  refine callsIn_of_wp_marks Try.func28 rfl trivial ?_ rfl
  simp only [Try.ntmps28, List.size_toArray, List.length_cons, List.length_nil, Nat.reduceAdd, Nat.reduceSub, Array.replicate_succ, Array.replicate_zero, List.push_toArray, List.append_toArray, List.nil_append, List.cons_append]
  gi_wp2
  exact ⟨_, results_tmp rfl _ _ _, rfl, rfl⟩
/-- The deferred closure of Spans, while an error is raised and while none is. -/
theorem assert_some38 (q : Int) (w : World) : (Instr.typeAssert (.iface 38 (.int .i64 q)) 20 38 true).run Try.prog w = .ok (.tuple #[.int .i64 q, .bool true]) w := by
  have h : (Try.prog.underlying 38) = some (.int .i64) := Try.underlying38
  simp [Instr.typeAssert]
end Go.Proofs.Ytngaifokkkmmcaa
