/- The reference: New, Add. Conditions stand in each theorem. -/
import Derived.Test.YtildofclgofjdaaRA
import Derived.Laws.Tables
namespace Go.Proofs.Ytildofclgofjdaa
open Go.RowKit
set_option linter.unusedVariables false
set_option maxHeartbeats 400000
set_option maxRecDepth 100000
theorem RC_one (s : St) (A : Option Addr) (n c : Nat) : (RC s (.slice A n c)).all (·.oneCell') = true := by simp [RC, Value.oneCell']
def St.zero : St := { wt := false, bu := 0, hi := 0, me := 0, lo := 0, L := [], last := fun _ => -1, cr := fun _ => 0 }
theorem rnew_any (wt : Bool) (bu hi me lo : Int) (w : World) :
    Calls Try.prog 14 #[.agg #[.bool wt, .int .i64 bu, .int .i64 hi, .int .i64 me, .int .i64 lo]] w (RPost w (St.new wt bu hi me lo) (.slice none 0 0)) := by
  have N1 : Hid (∀ W, Calls Try.prog 27 #[.agg #[.bool false, .int .i64 0, .int .i64 0, .int .i64 0, .int .i64 0, .slice none 0 0, .int .i64 (-1), .int .i64 (-1), .int .i64 (-1), .int .i64 (-1), .int .i64 0, .int .i64 0, .int .i64 0, .int .i64 0], .agg #[.bool wt, .int .i64 bu, .int .i64 hi, .int .i64 me, .int .i64 lo]] W (RPost W (St.new wt bu hi me lo) (.slice none 0 0))) := Lib.hid (fun W => rconf_any St.zero none 0 0 wt bu hi me lo W)
  go_enter Try.func14, Try.ntmps14
  go_wp2_with (first
    | ((go_at_call 27; with_reducible refine (N1.out _).mono ?_); rintro e w1 ⟨he, hb⟩
       have he2 : e = .returned (.agg #[.bool wt, .int .i64 bu, .int .i64 hi, .int .i64 me, .int .i64 lo, .slice none 0 0, .int .i64 (-1), .int .i64 (-1), .int .i64 (-1), .int .i64 (-1), .int .i64 0, .int .i64 hi, .int .i64 me, .int .i64 lo]) := he
       subst he2
       have HB := Lib.hid hb
       have HR := Lib.hid ((hb.block (w.heap.size + 1) (by simp)).trans (heap_alloc2_new w _ _))
       clear hb he)
    | (refine wpList_store_row rfl 35 _ _ rfl (w.heap.size + 1) (RC (St.new wt bu hi me lo) (.slice none 0 0)) rfl rfl 35 _ HR.out info35 rfl (RC_one _ _ _ _) ?_))
  (try simp only [Exit.inBlock, Exit.then])
  refine bodyPost_ret (v := .agg (RC (St.new wt bu hi me lo) (.slice none 0 0))) ?_ rfl ?_
  · exact results_row (a := 2) (ty := 35) rfl _ _ (w.heap.size + 1) 35 (RC (St.new wt bu hi me lo) (.slice none 0 0)) (0, 0) _ rfl (setRow_heap w1 _ _ _ 35 (0, 0) HR.out) Try.underlying35 rfl info35
  have b0 := HB.out
  have b1 : Below w.heap.size w w1 := (((Below.refl _ _).alloc (Nat.le_refl _) _).alloc (by simp) _).trans (b0.mono (by simp; omega))
  exact ⟨rfl, b1.trans ⟨rfl, rfl, rfl, by simp, fun k hk => setRow_other w1 _ k _ (by omega)⟩⟩
end Go.Proofs.Ytildofclgofjdaa
