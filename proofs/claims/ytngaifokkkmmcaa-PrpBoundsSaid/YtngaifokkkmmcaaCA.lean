/- Same at one list of spans; spans. Conditions stand in each theorem. -/
import Derived.Test.YtngaifokkkmmcaaBI
namespace Go.Proofs.Ytngaifokkkmmcaa
open Go.RowKit Go.Shelf
set_option linter.unusedVariables false
set_option maxHeartbeats 4000000
set_option maxRecDepth 100000
/-- A span against itself. -/
theorem neq42 (x y : Nat) (W : World) : (binOp .neq 42 (.agg #[.int .u64 (x : Int), .int .i64 (y : Int), .bool false]) (.agg #[.int .u64 (x : Int), .int .i64 (y : Int), .bool false])).run Try.prog W = .ok (.bool false) W := by
  have key : ∀ n, (Op.equalIn (n + 1 + 1) 42 (.agg #[.int .u64 (x : Int), .int .i64 (y : Int), .bool false]) (.agg #[.int .u64 (x : Int), .int .i64 (y : Int), .bool false])).run Try.prog W = .ok true W := fun n => by
    simp [Op.equalIn, run_underlying Try.underlying42, run_underlying Try.underlying3, run_underlying Try.underlying23, run_underlying Try.underlying4, go_sem]
  rw [run_neq_struct, show (10000 : Nat) = 9998 + 1 + 1 from rfl, key]
  rfl
theorem Same_eq (v1 v2 : Value) (l : List (Nat × Nat)) (w : World) (h1 : Spn w v1 l) (h2 : Spn w v2 l) (hl : l.length ≤ 1000000) : Calls Try.prog 44 #[v1, v2] w fun e w' => e = .returned (.bool true) ∧ Below w.heap.size w w' := by
  obtain ⟨A, c, rfl, hc, hr⟩ := h1
  obtain ⟨A2, c2, rfl, hc2, hr2⟩ := h2
  have HR := Lib.hid hr
  have HR2 := Lib.hid hr2
  have hli : (l.length : Int) ≤ 1000000 := by omega
  clear hr hr2 hc hc2
  go_enter Try.func44, Try.ntmps44
  go_wp2
  go_loopw [5] (fun i wr => ∃ k : Nat, k ≤ l.length ∧ i = .int .i64 k ∧ Hid (Below w.heap.size w wr)) (fun i _ => l.length - (RowKit.intOf i).toNat)
  case atStart => exact ⟨0, Nat.zero_le _, rfl, Lib.hid (Below.refl _ _)⟩
  case round =>
    obtain ⟨k, hk, rfl, HB⟩ := hrel
    by_cases hlt : k < l.length
    · obtain ⟨g, o, rfl, hg, hcell⟩ := HR.out (by omega)
      obtain ⟨g2, o2, rfl, hg2, hcell2⟩ := HR2.out (by omega)
      obtain ⟨a1, a2, a3⟩ := hcell k hlt
      obtain ⟨b1, b2, b3⟩ := hcell2 k hlt
      have c1 := (HB.out.cell (p := ⟨g, o + k * 3, none⟩) hg).trans a1
      have c2 := (HB.out.cell (p := ⟨g, o + k * 3 + 1, none⟩) hg).trans a2
      have c3 := (HB.out.cell (p := ⟨g, o + k * 3 + 2, none⟩) hg).trans a3
      have d1 := (HB.out.cell (p := ⟨g2, o2 + k * 3, none⟩) hg2).trans b1
      have d2 := (HB.out.cell (p := ⟨g2, o2 + k * 3 + 1, none⟩) hg2).trans b2
      have d3 := (HB.out.cell (p := ⟨g2, o2 + k * 3 + 2, none⟩) hg2).trans b3
      obtain ⟨x, hx⟩ : ∃ x, x = l[k].1 := ⟨_, rfl⟩
      obtain ⟨y, hy⟩ : ∃ y, y = l[k].2 := ⟨_, rfl⟩
      rw [← hx] at c1 d1
      rw [← hy] at c2 d2
      have HN := Lib.hid (fun W => neq42 x y W)
      have hki : (k : Int) < (l.length : Int) := by omega
      clear hx hy hcell hcell2 a1 a2 a3 b1 b2 b3
      have hneq := HN.out
      go_wp2
      go_region
      go_wp2
      go_roundw
      case rel => exact ⟨k + 1, by omega, by go_num, Lib.hid HB.out.drew⟩
      case measure => simp [RowKit.intOf]; omega
    · obtain rfl : k = l.length := by omega
      go_wp2
      go_ret
      exact ⟨rfl, HB.out⟩
end Go.Proofs.Ytngaifokkkmmcaa
