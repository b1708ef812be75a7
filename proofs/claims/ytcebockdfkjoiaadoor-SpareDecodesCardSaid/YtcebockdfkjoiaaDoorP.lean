/- The contracts of require, of parse's closures, and of parse. Conditions stand in each theorem. -/
import Derived.Test.YtcebockdfkjoiaaDoorH
import Derived.Defers
import Derived.Recover
import Derived.Laws.Pointers
import Derived.WalkLawsBesides
namespace Go.Proofs.YtcebockdfkjoiaaDoor
open Go.RowKit
set_option linter.unusedVariables false
set_option maxHeartbeats 1000000
set_option maxRecDepth 100000

theorem require_yes (w : World) : Calls Tryd.prog 46 #[.bool true] w fun e w' => e = .returned (.tuple #[]) ∧ w = w' := by
  go_enter Tryd.func46, Tryd.ntmps46
  go_wp2
  go_end0
  exact ⟨rfl, rfl⟩
theorem require_no (w : World) : Calls Tryd.prog 46 #[.bool false] w fun e w' => e = .panicked [{ v := .iface 28 (.int .i64 6), recovered := false }] ∧ w = w' := by
  go_enter Tryd.func46, Tryd.ntmps46
  go_wp2
  exact ⟨rfl, rfl, rfl⟩
theorem integer_any (g p : Nat) (vd : Value) (l : List UInt8) (a n : Nat) (w : World) (h : Rd w g vd l a) (hp : w.cell? ⟨p, 0, none⟩ = some (.pointer (some ⟨g, 0, none⟩))) (h1 : 1 ≤ n) (h8 : n ≤ 8) (hn : a + n ≤ l.length) :
    Calls Tryd.prog 44 #[.int .i64 (n : Int), .pointer (some ⟨p, 0, none⟩)] w (RPost w g vd l (a + n) (.int .u64 (getV ((l.drop a).take n)))) := by
  have hf := field_ok g vd l a n w h h1 h8 hn
  have Hf := Lib.hid (Next_of g n w _ _ vd l _ hf); clear hf h hn
  go_enter Tryd.func44, Tryd.ntmps44
  go_wp2_with fail
  refine Hf.out.mono ?_
  rintro e w1 ⟨rfl, h1, h2⟩
  have H1 := Lib.hid h1; have H2 := Lib.hid h2; clear h1 h2
  go_wp2_with ((go_at_call 46; refine (require_yes _).mono ?_); rintro e w' ⟨rfl, rfl⟩)
  go_ret
  exact ⟨rfl, H1.out, H2.out⟩
theorem assert_some (w : World) : (Instr.typeAssert (.iface 28 (.int .i64 6)) 20 28 true).run Tryd.prog w = .ok (.tuple #[.int .i64 6, .bool true]) w := by kernel_rfl
theorem assert_none (w : World) : (Instr.typeAssert .nilIface 20 28 true).run Tryd.prog w = .ok (.tuple #[.int .i64 0, .bool false]) w := by kernel_rfl
theorem set_row (w : World) (g j : Nat) (c : Array Value) (t : TypeId) (v : Value) (h : w.heap[g]? = some (.cells c t (0, 0))) : (w.setCell ⟨g, j, none⟩ v).heap[g]? = some (.cells (c.setIfInBounds j v) t (0, 0)) := by
  simp [World.setCell, Array.getElem?_modify, h]
theorem set_other (w : World) (g j k : Nat) (v : Value) (h : k ≠ g) : (w.setCell ⟨g, j, none⟩ v).heap[k]? = w.heap[k]? := Below.heap_setCell w ⟨g, j, none⟩ v k h
theorem catch_panicking (p q : Nat) (u0 u1 u2 u3 u4 u5 x : Value) (older : List PanicEntry) (w : World) (hp : w.heap[p]? = some (.cells #[u0, u1, u2, u3, u4, u5] 25 (0, 0))) (hq : w.heap[q]? = some (.cells #[x] 28 (0, 0))) (hpq : p < q) :
    CallsD Tryd.prog 41 #[.pointer (some ⟨p, 0, none⟩), .pointer (some ⟨q, 0, none⟩)] (.panicking ({ v := .iface 28 (.int .i64 6), recovered := false } :: older)) w fun e u' w' =>
      e = .returned (.tuple #[]) ∧ u' = .panicking ({ v := .iface 28 (.int .i64 6), recovered := true } :: older) ∧ Chg (fun b => b = p ∨ b = q) w w' ∧
        w'.heap[p]? = some (.cells #[.int .u8 0, .int .i64 0, .int .u64 0, .int .u64 0, .int .i64 0, .int .i64 0] 25 (0, 0)) ∧ w'.heap[q]? = some (.cells #[.int .i64 6] 28 (0, 0)) := by
  refine callsD_of_wpS Tryd.func41 rfl fun c₀ cs hu => ?_
  apply wpS_seq
  apply wpS_region
  simp [wpOpsS, go_sem, recoverD, hu, Tryd.ntmps41, Exit.thenS, assert_some]
  have hc0 := fun j => cell_of_row w p j _ _ _ hp
  have hf0 := fun j => frozen_of_row w p j _ _ hp
  have hc1 := fun j => cell_of_row w q j _ _ _ hq
  have hf1 := fun j => frozen_of_row w q j _ _ hq
  have Hp := Lib.hid hp; have Hq := Lib.hid hq; clear hp hq
  refine wpS_of_wp ?_
  change Code.wp _ _ _ { tmps := #[.pointer (some ⟨p, 0, none⟩), .pointer (some ⟨q, 0, none⟩), .int .i64 6, .bool true, .tuple #[.int .i64 6, .bool true], .iface 28 (.int .i64 6), .tuple #[.int .i64 6, .bool true], .int .i64 6, .bool true, undef, undef, undef], defers := [] } _
  go_wp2
  have r0 := set_row w p 0 _ _ (.int .u8 0) Hp.out
  have r1 := set_row _ p 1 _ _ (.int .i64 0) r0
  have r2 := set_row _ p 2 _ _ (.int .u64 0) r1
  have r3 := set_row _ p 3 _ _ (.int .u64 0) r2
  have r4 := set_row _ p 4 _ _ (.int .i64 0) r3
  have r5 := set_row _ p 5 _ _ (.int .i64 0) r4
  have q5 : ((((((w.setCell ⟨p, 0, none⟩ (.int .u8 0)).setCell ⟨p, 1, none⟩ (.int .i64 0)).setCell ⟨p, 2, none⟩ (.int .u64 0)).setCell ⟨p, 3, none⟩ (.int .u64 0)).setCell ⟨p, 4, none⟩ (.int .i64 0)).setCell ⟨p, 5, none⟩ (.int .i64 0)).heap[q]? = some (.cells #[x] 28 (0, 0)) := by
    rw [set_other _ _ _ _ _ (by omega), set_other _ _ _ _ _ (by omega), set_other _ _ _ _ _ (by omega), set_other _ _ _ _ _ (by omega), set_other _ _ _ _ _ (by omega), set_other _ _ _ _ _ (by omega)]
    exact Hq.out
  have q6 := set_row _ q 0 _ _ (.int .i64 6) q5
  have fin1 : Chg (fun b => b = p ∨ b = q) w (((((((w.setCell ⟨p, 0, none⟩ (.int .u8 0)).setCell ⟨p, 1, none⟩ (.int .i64 0)).setCell ⟨p, 2, none⟩ (.int .u64 0)).setCell ⟨p, 3, none⟩ (.int .u64 0)).setCell ⟨p, 4, none⟩ (.int .i64 0)).setCell ⟨p, 5, none⟩ (.int .i64 0)).setCell ⟨q, 0, none⟩ (.int .i64 6)) := ((((((((Chg.refl _ w).setCell (.inl rfl) _).setCell (.inl rfl) _).setCell (.inl rfl) _).setCell (.inl rfl) _).setCell (.inl rfl) _).setCell (.inl rfl) _).setCell (.inr rfl) _)
  have fin2 : (((((((w.setCell ⟨p, 0, none⟩ (.int .u8 0)).setCell ⟨p, 1, none⟩ (.int .i64 0)).setCell ⟨p, 2, none⟩ (.int .u64 0)).setCell ⟨p, 3, none⟩ (.int .u64 0)).setCell ⟨p, 4, none⟩ (.int .i64 0)).setCell ⟨p, 5, none⟩ (.int .i64 0)).setCell ⟨q, 0, none⟩ (.int .i64 6)).heap[p]? = _ := (set_other _ _ _ _ _ (by omega)).trans r5
  clear r0 r1 r2 r3 r4 r5 q5
  generalize ((((((w.setCell ⟨p, 0, none⟩ (.int .u8 0)).setCell ⟨p, 1, none⟩ (.int .i64 0)).setCell ⟨p, 2, none⟩ (.int .u64 0)).setCell ⟨p, 3, none⟩ (.int .u64 0)).setCell ⟨p, 4, none⟩ (.int .i64 0)).setCell ⟨p, 5, none⟩ (.int .i64 0)).setCell ⟨q, 0, none⟩ (.int .i64 6) = W at *
  exact ⟨rfl, _, rfl, _, by simp [results, Tryd.results41, go_sem], rfl, rfl, fin1, fin2, q6⟩
theorem catch_idle (p q : Nat) (w : World) :
    CallsD Tryd.prog 41 #[.pointer (some ⟨p, 0, none⟩), .pointer (some ⟨q, 0, none⟩)] .returning w fun e u' w' => e = .returned (.tuple #[]) ∧ u' = .returning ∧ w' = w := by
  refine callsD_of_wpS Tryd.func41 rfl fun c₀ cs hu => ?_
  apply wpS_seq
  apply wpS_region
  simp [wpOpsS, go_sem, recoverD, hu, Tryd.ntmps41, Exit.thenS, assert_none]
  refine wpS_of_wp ?_
  change Code.wp _ _ _ { tmps := #[.pointer (some ⟨p, 0, none⟩), .pointer (some ⟨q, 0, none⟩), .int .i64 0, .bool false, .tuple #[.int .i64 0, .bool false], .nilIface, .tuple #[.int .i64 0, .bool false], .int .i64 0, .bool false, undef, undef, undef], defers := [] } _
  go_wp2
  cases c₀
  simp_all [bodyPostS, results, Tryd.results41]
end Go.Proofs.YtcebockdfkjoiaaDoor
