/- The contracts of valid and New. Conditions stand in each theorem. -/
import Derived.Test.YtddejcoagcaidaaU
import Derived.Deep.DeepCutAuto
import Derived.Deep.CutBlock
namespace Go.Proofs.Ytddejcoagcaidaa
open Go.RowKit
set_option linter.unusedVariables false
set_option maxHeartbeats 2000000
set_option maxRecDepth 100000
def valB (nb np sz en : Int) : Bool := wiB nb 2 4096 && (wiB np 2 512 && (wiB sz 1 8192 && wiB en 1 1048576))
theorem valid_any (nb np sz en : Int) (w : World) : Calls Try.prog 33 #[.agg #[.int .i64 nb, .int .i64 np, .int .i64 sz, .int .i64 en]] w fun e w' => e = .returned (.bool (valB nb np sz en)) ∧ Below w.heap.size w w' := by
  unfold valB
  cases h1 : wiB nb 2 4096
  · go_enter Try.func33, Try.ntmps33
    go_wp2_with ((go_at_call 57; with_reducible refine (within_any _ _ _ _).mono ?_); rintro e w' ⟨rfl, rfl⟩)
    go_ret
    exact ⟨rfl, below_alloc w _⟩
  · cases h2 : wiB np 2 512
    · go_enter Try.func33, Try.ntmps33
      go_wp2_with ((go_at_call 57; with_reducible refine (within_any _ _ _ _).mono ?_); rintro e w' ⟨rfl, rfl⟩)
      go_ret
      exact ⟨rfl, below_alloc w _⟩
    · cases h3 : wiB sz 1 8192
      · go_enter Try.func33, Try.ntmps33
        go_wp2_with ((go_at_call 57; with_reducible refine (within_any _ _ _ _).mono ?_); rintro e w' ⟨rfl, rfl⟩)
        go_ret
        exact ⟨rfl, below_alloc w _⟩
      · go_enter Try.func33, Try.ntmps33
        go_wp2_with ((go_at_call 57; with_reducible refine (within_any _ _ _ _).mono ?_); rintro e w' ⟨rfl, rfl⟩)
        go_ret
        exact ⟨rfl, below_alloc w _⟩
theorem valB_nat {nb np sz en : Int} (h : valB nb np sz en = true) : ∃ a b c : Nat, nb = a ∧ np = b ∧ sz = c ∧ 2 ≤ a ∧ a ≤ 4096 ∧ 2 ≤ b ∧ b ≤ 512 ∧ 1 ≤ c ∧ c ≤ 8192 ∧ 1 ≤ en ∧ en ≤ 1048576 := by
  unfold valB at h
  simp only [Bool.and_eq_true] at h
  obtain ⟨h1, h2, h3, h4⟩ := h
  unfold wiB at h1 h2 h3 h4
  have h1 := of_decide_eq_true h1
  have h2 := of_decide_eq_true h2
  have h3 := of_decide_eq_true h3
  have h4 := of_decide_eq_true h4
  exact ⟨nb.toNat, np.toNat, sz.toNat, by omega, by omega, by omega, by omega, by omega, by omega, by omega, by omega, by omega, by omega, by omega⟩
/-- A new device. -/
def Dev.new (nb np sz : Nat) (en : Int) (F : List Int) : Dev := { nb := nb, np := np, sz := sz, en := en, bk := fun _ => ⟨0, []⟩, F := F, po := -1, pb := 0, n := 0, off := false }
theorem gd_new {nb np sz : Nat} {en : Int} {F : List Int} (h : 2 ≤ nb ∧ nb ≤ 4096 ∧ 2 ≤ np ∧ np ≤ 512 ∧ 1 ≤ sz ∧ sz ≤ 8192 ∧ 1 ≤ en ∧ en ≤ 1048576) : Gd (Dev.new nb np sz en F) := by
  obtain ⟨a, b, c, d, e, f, g, i⟩ := h
  refine ⟨⟨a, b⟩, ⟨c, d⟩, ⟨e, f⟩, ⟨g, i⟩, fun i _ => ?_, fun i _ => ?_, ?_, ?_, fun i _ p hp => ?_⟩
  · show (0 : Int) ≤ 0 ∧ (0 : Int) ≤ en
    omega
  · show 0 ≤ np
    omega
  · show (0 : Int) ≤ 0 ∧ (0 : Int) ≤ sz + 64
    omega
  · show (0 : Int) ≤ 0
    omega
  · cases hp
/-- A slice value that reads as the numbers l. -/
def Ints (w : World) (v : Value) (l : List Int) : Prop :=
  ∃ A c, v = .slice A l.length c ∧ (0 < l.length → ∃ g o, A = some ⟨g, o, none⟩ ∧ g < w.heap.size ∧ ∀ j (hj : j < l.length), w.cell? ⟨g, o + j, none⟩ = some (.int .i64 l[j]))
theorem info94 : (Try.prog.info? 94).map (fun i => (i.zero, i.size, i.bytes)) = some (some (.agg #[.int .i64 0, .slice none 0 0]), 2, 32) := by kernel_rfl
/-- The cells of new blocks. -/
def zb (n : Nat) : Array Value := madeCells #[.int .i64 0, .slice none 0 0] (n * 2)
theorem zb_size (n : Nat) : (zb n).size = n * 2 := size_madeCells _ _
theorem zb_at (n i : Nat) (h : i < n) : (zb n)[i * 2]? = some (.int .i64 0) ∧ (zb n)[i * 2 + 1]? = some (.slice none 0 0) := by
  have h1 : i * 2 < n * 2 := by omega
  have h2 : i * 2 + 1 < n * 2 := by omega
  have e1 : i * 2 % 2 = 0 := by omega
  have e2 : (i * 2 + 1) % 2 = 1 := by omega
  constructor
  · simp [zb, madeCells, h1, e1]
  · simp [zb, madeCells, h2, e2]
theorem make_blocks (n : Nat) (hn : n ≤ 4096) (W : World) : (Instr.makeSlice 59 (.int .i64 (n : Int)) (.int .i64 (n : Int))).run Try.prog W = .ok (.slice (some ⟨W.heap.size, 0, none⟩) n n) (W.alloc (.cells (zb n) 94)) := by
  obtain ⟨i0, hi0, hz0, hz1, hz2⟩ := info_parts info94
  have hr := run_makeSlice (P := Try.prog) W 59 94 i0 _ Try.underlying59 hi0 hz0 .i64 .i64 n n (by omega) (Int.le_refl _) (by rw [hz1]; omega) (by rw [hz2]; omega) (by omega)
  simp only [Int.toNat_natCast] at hr
  rw [hr, hz1]
  rfl
end Go.Proofs.Ytddejcoagcaidaa
