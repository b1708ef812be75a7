/- The contracts of the closures over a block. Conditions stand in each theorem. -/
import Derived.Test.YtpojgjbgbbnojaaA
import Derived.BigRegion
namespace Go.Proofs.Ytpojgjbgbbnojaa
open Go.RowKit
set_option linter.unusedVariables false
set_option maxHeartbeats 1000000
set_option maxRecDepth 100000
theorem below_drewN (w : World) (n : Nat) : Below w.heap.size w (w.drewN n) := ⟨rfl, rfl, rfl, Nat.le_refl _, fun _ _ => rfl⟩
def Blk.v (x : Blk) : Value := .agg #[.int .i64 x.er, .int .i64 x.st]
/-- What a call leaves that only makes memory. -/
def Ret (w : World) (v : Value) (e : Ending) (w' : World) : Prop := e = .returned v ∧ Below w.heap.size w w'
def neB (q s : Int) : Bool := !decide (q = s)
def eqB (q s : Int) : Bool := decide (q = s)
theorem usable_any (er st : Int) (w : World) : Calls Try.prog 46 #[.agg #[.int .i64 er, .int .i64 st]] w (Ret w (.bool (neB st 4))) := by
  unfold neB
  by_cases h : st = 4
  all_goals
    go_enter Try.func46, Try.ntmps46
    go_wp2
    go_ret
    exact ⟨by simp [h], below_alloc w _⟩
theorem isOpen_any (er st : Int) (w : World) : Calls Try.prog 49 #[.agg #[.int .i64 er, .int .i64 st]] w (Ret w (.bool (eqB st 2))) := by
  unfold eqB
  by_cases h : st = 2
  all_goals
    go_enter Try.func49, Try.ntmps49
    go_wp2
    go_ret
    exact ⟨by simp [h], below_alloc w _⟩
def relB (er st : Int) : Bool := (eqB st 2 || eqB st 3) && decide (er < 1099511627776)
theorem mayRel_any (er st : Int) (w : World) : Calls Try.prog 50 #[.agg #[.int .i64 er, .int .i64 st]] w (Ret w (.bool (relB er st))) := by
  unfold relB eqB
  by_cases h : st = 2
  · by_cases h3 : er < 1099511627776
    all_goals
      go_enter Try.func50, Try.ntmps50
      go_wp2
      go_ret
      exact ⟨by simp [h, h3], below_alloc w _⟩
  · by_cases h2 : st = 3 <;> by_cases h3 : er < 1099511627776
    all_goals
      go_enter Try.func50, Try.ntmps50
      go_wp2
      go_ret
      exact ⟨by simp [h, h2, h3], below_alloc w _⟩
theorem cold1_any (er st s : Int) (q : Nat) (w : World) (hq : w.cell? ⟨q, 0, none⟩ = some (.int .i64 s)) : Calls Try.prog 57 #[.agg #[.int .i64 er, .int .i64 st], .pointer (some ⟨q, 0, none⟩)] w (Ret w (.tuple #[.int .i64 er, .bool (eqB st s)])) := by
  have hql := World.block_lt_of_cell? w _ hq
  have hq' : (w.alloc (.cells #[.int .i64 er, .int .i64 st] 69)).cell? ⟨q, 0, none⟩ = some (.int .i64 s) := ((below_alloc w _).cell (p := ⟨q, 0, none⟩) hql).trans hq
  unfold eqB
  by_cases h : st = s
  all_goals
    go_enter Try.func57, Try.ntmps57
    go_wp2
    go_quiet (fail)
    go_wp2
    go_ret2
    exact ⟨by simp [h], (below_alloc w _).trans ((below_drewN _ _).mono (by simp))⟩
/-- Nothing that was there has changed. -/
def Bel (w w' : World) : Prop := Below w.heap.size w w'
theorem Bel.refl (w : World) : Bel w w := Below.refl _ _
theorem Bel.trans {a b c : World} (h : Bel a b) (k : Bel b c) : Bel a c := Below.trans h (Below.mono k (Below.size h))
theorem Bel.drew {a b : World} (h : Bel a b) : Bel a b.drew := Below.drew h
theorem Bel.cell {a b : World} (h : Bel a b) {p : Addr} (hp : p.block < a.heap.size) : b.cell? p = a.cell? p := Below.cell h hp
/-- A block in a box of its own. -/
def Bx (w : World) (q : Nat) (er st : Int) (W : World) : Prop := Bel w W ∧ W.cell? ⟨q, 0, none⟩ = some (.int .i64 er) ∧ W.cell? ⟨q, 1, none⟩ = some (.int .i64 st)
theorem Bx.then {w W W' : World} {q : Nat} {er st : Int} (h : Bx w q er st W) (hb : Below W.heap.size W W') : Bx w q er st W' :=
  ⟨Bel.trans h.1 hb, (hb.cell (World.block_lt_of_cell? W _ h.2.1)).trans h.2.1, (hb.cell (World.block_lt_of_cell? W _ h.2.2)).trans h.2.2⟩
theorem Bx.drew {w W : World} {q : Nat} {er st : Int} (h : Bx w q er st W) : Bx w q er st W.drew := ⟨h.1.drew, h.2.1, h.2.2⟩
theorem Bx.new (w : World) (er st : Int) : Bx (w.alloc (.cells #[.int .i64 er, .int .i64 st] 69)) w.heap.size er st (w.alloc (.cells #[.int .i64 er, .int .i64 st] 69)) :=
  have e := fun k => cell_of_row (w.alloc (.cells #[.int .i64 er, .int .i64 st] 69)) w.heap.size k _ 69 (0, 0) (heap_alloc_new w _)
  ⟨Bel.refl _, e 0, e 1⟩
theorem usable_bx {w W : World} {q : Nat} {er st : Int} (h : Bx w q er st W) : Calls Try.prog 46 #[.agg #[.int .i64 er, .int .i64 st]] W fun e w' => e = .returned (.bool (neB st 4)) ∧ Bel w w' ∧ w'.cell? ⟨q, 0, none⟩ = some (.int .i64 er) ∧ w'.cell? ⟨q, 1, none⟩ = some (.int .i64 st) :=
  (usable_any er st W).mono fun e w' ⟨he, hb⟩ => ⟨he, h.then hb⟩
theorem spr1_any (er st : Int) (w : World) : Calls Try.prog 45 #[.agg #[.int .i64 er, .int .i64 st]] w (Ret w (.tuple #[.int .i64 er, .bool (neB st 4)])) := by
  have HB := Lib.hid (Bx.new w er st)
  have HU := Lib.hid (fun W (h : Bel (w.alloc (.cells #[.int .i64 er, .int .i64 st] 69)) W ∧ W.cell? ⟨w.heap.size, 0, none⟩ = some (.int .i64 er) ∧ W.cell? ⟨w.heap.size, 1, none⟩ = some (.int .i64 st)) => usable_bx h)
  go_enter Try.func45, Try.ntmps45
  go_wp2
  go_region_held3 (fun W => Bel (w.alloc (.cells #[.int .i64 er, .int .i64 st] 69)) W ∧ W.cell? ⟨w.heap.size, 0, none⟩ = some (.int .i64 er) ∧ W.cell? ⟨w.heap.size, 1, none⟩ = some (.int .i64 st)) (first | assumption | exact HB.out.drew | exact HB.out)
    (first | ((go_at_call 46; with_reducible refine (HU.out _ (by assumption)).mono ?_); rintro e w' ⟨rfl, hw'⟩))
  go_wp2
  go_ret2
  exact ⟨rfl, (below_alloc w _).trans (Below.mono hw'.1 (by simp))⟩
theorem spr2_any (er st : Int) (w : World) (h0 : 0 ≤ er) (h1 : er ≤ 1099511627776) : Calls Try.prog 47 #[.agg #[.int .i64 er, .int .i64 st]] w (Ret w (.tuple #[.int .i64 (-er), .bool (neB st 4)])) := by
  have hwr : IntKind.i64.wrap (-er) = -er := by rw [IntKind.wrap_i64]; omega
  have HB := Lib.hid (Bx.new w er st)
  have HU := Lib.hid (fun W (h : Bel (w.alloc (.cells #[.int .i64 er, .int .i64 st] 69)) W ∧ W.cell? ⟨w.heap.size, 0, none⟩ = some (.int .i64 er) ∧ W.cell? ⟨w.heap.size, 1, none⟩ = some (.int .i64 st)) => usable_bx h)
  go_enter Try.func47, Try.ntmps47
  go_wp2
  go_region_held3 (fun W => Bel (w.alloc (.cells #[.int .i64 er, .int .i64 st] 69)) W ∧ W.cell? ⟨w.heap.size, 0, none⟩ = some (.int .i64 er) ∧ W.cell? ⟨w.heap.size, 1, none⟩ = some (.int .i64 st)) (first | assumption | exact HB.out.drew | exact HB.out)
    (first | ((go_at_call 46; with_reducible refine (HU.out _ (by assumption)).mono ?_); rintro e w' ⟨rfl, hw'⟩))
  go_wp2
  go_ret2
  exact ⟨rfl, (below_alloc w _).trans (Below.mono hw'.1 (by simp))⟩
end Go.Proofs.Ytpojgjbgbbnojaa
