/- The methods without an arbiter: a nil pointer, a zero value. Conditions stand in each theorem. -/
import Derived.Test.YtildofclgofjdaaO
namespace Go.Proofs.Ytildofclgofjdaa
open Go.RowKit
set_option linter.unusedVariables false
set_option maxHeartbeats 400000
set_option maxRecDepth 100000
/- A function value against nil. -/
theorem run_equalIn_func_nil {P : Program} (w : World) (d : Nat) (t : TypeId) {ps rs : Array TypeId} {vr : Bool} (f : Fn) (a b : Array Value) (h : P.underlying t = some (.func ps rs vr)) :
    (Op.equalIn (d + 1) t (.func f a b) .nilFunc).run P w = .ok false w := by
  simp [Op.equalIn, run_underlying h]
theorem run_eql_func_nil {P : Program} (w : World) (t : TypeId) {ps rs : Array TypeId} {vr : Bool} (f : Fn) (a b : Array Value) (h : P.underlying t = some (.func ps rs vr)) :
    (binOp .eql t (.func f a b) .nilFunc).run P w = .ok (.bool false) w := by
  simp only [binOp]
  simp [show Op.equal t (.func f a b) .nilFunc = Op.equalIn (9999 + 1) t (.func f a b) .nilFunc from rfl, run_equalIn_func_nil w 9999 t f a b h]
/-- The pointer p leads to no arbiter, in w and in every later world. -/
def Miss (w : World) (p : Option Addr) : Prop := ∀ W, Below w.heap.size w W → Calls Try.prog 30 #[.pointer p] W fun e w' => e = .returned (.bool true) ∧ W = w'
theorem Miss.nil (w : World) : Miss w none := fun W _ => missing_nil W
theorem Miss.zero (w : World) (b : Nat) (hb : b < w.heap.size) (h : w.cell? ⟨b, 5, none⟩ = some (.map none)) : Miss w (some ⟨b, 0, none⟩) := fun W hW => missing_zero b W ((hW.cell (by exact hb)).trans h)
theorem Miss.later {w w' : World} {p : Option Addr} (h : Miss w p) (hb : Below w.heap.size w w') : Miss w' p := fun W hW => h W (hb.trans (hW.mono hb.size))
theorem Pick_miss (p : Option Addr) (v : Value) (w : World) (h : Miss w p) : Calls Try.prog 17 #[.pointer p, v] w fun e w' => e = .returned (.tuple #[.int .i64 0, .int .i64 0, .int .i64 1]) ∧ w = w' := by
  have HM := Lib.hid (h w (Below.refl _ _))
  clear h
  go_enter Try.func17, Try.ntmps17
  go_wp2_with ((go_at_call 30; with_reducible refine HM.out.mono ?_); rintro e w' ⟨rfl, rfl⟩)
  go_ret3
  exact ⟨rfl, rfl⟩
theorem Add_miss (p : Option Addr) (q c : Int) (w : World) (h : Miss w p) : Calls Try.prog 16 #[.pointer p, .int .i64 q, .int .i64 c] w fun e w' => e = .returned (.int .i64 1) ∧ w = w' := by
  have HM := Lib.hid (h w (Below.refl _ _))
  clear h
  go_enter Try.func16, Try.ntmps16
  go_wp2_with ((go_at_call 30; with_reducible refine HM.out.mono ?_); rintro e w' ⟨rfl, rfl⟩)
  go_ret
  exact ⟨rfl, rfl⟩
theorem Remove_miss (p : Option Addr) (q : Int) (w : World) (h : Miss w p) : Calls Try.prog 21 #[.pointer p, .int .i64 q] w fun e w' => e = .returned (.int .i64 1) ∧ w = w' := by
  have HM := Lib.hid (h w (Below.refl _ _))
  clear h
  go_enter Try.func21, Try.ntmps21
  go_wp2_with ((go_at_call 30; with_reducible refine HM.out.mono ?_); rintro e w' ⟨rfl, rfl⟩)
  go_ret
  exact ⟨rfl, rfl⟩
theorem Configure_miss (p : Option Addr) (wt : Bool) (bu hi me lo : Int) (w : World) (h : Miss w p) : Calls Try.prog 24 #[.pointer p, .agg #[.bool wt, .int .i64 bu, .int .i64 hi, .int .i64 me, .int .i64 lo]] w fun e w' => e = .returned (.int .i64 1) ∧ Below w.heap.size w w' := by
  have HM := Lib.hid (h _ (below_alloc w (.cells #[.bool wt, .int .i64 bu, .int .i64 hi, .int .i64 me, .int .i64 lo] 23)))
  clear h
  go_enter Try.func24, Try.ntmps24
  go_wp2_with ((go_at_call 30; with_reducible refine HM.out.mono ?_); rintro e w' ⟨rfl, rfl⟩)
  go_ret
  exact ⟨rfl, below_alloc _ _⟩
theorem Copy_miss (p : Option Addr) (w : World) (h : Miss w p) : Calls Try.prog 22 #[.pointer p] w fun e w' => e = .returned (.pointer none) ∧ w = w' := by
  have HM := Lib.hid (h w (Below.refl _ _))
  clear h
  refine (callsIn_wide (n := 9)).1 ?_
  have f30 : Fence.wide.fn 30 := trivial
  refine callsIn_of_wp_marks Try.func22 rfl trivial ?_ rfl
  simp only [Try.ntmps22, List.size_toArray, List.length_cons, List.length_nil, Nat.reduceAdd, Nat.reduceSub, Array.replicate_succ, Array.replicate_zero, List.push_toArray, List.append_toArray, List.nil_append, List.cons_append]
  gi_wp2_with (gi_at_call 30; refine (callsIn_wide.2 HM.out).mono ?_; rintro e w' ⟨rfl, rfl⟩)
  exact ⟨_, results_tmp rfl _ _ _, rfl, rfl⟩
end Go.Proofs.Ytildofclgofjdaa
