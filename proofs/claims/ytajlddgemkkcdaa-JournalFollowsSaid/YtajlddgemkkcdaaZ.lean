/- delta; alike. Conditions stand in each theorem. -/
import Derived.Test.YtajlddgemkkcdaaY
namespace Go.Proofs.Ytajlddgemkkcdaa
open Go.RowKit
set_option linter.unusedVariables false
set_option maxHeartbeats 4000000
set_option maxRecDepth 100000
/-- A page of the law's own. -/
def dltP (g : Nat) (q p i n e : Int) : Pg := ⟨⟨2, 0, q, p, i, n⟩, some ⟨g, 0, none⟩, 1, [(1, e)]⟩
def DlPost (w : World) (q p i n e : Int) (en : Ending) (w' : World) : Prop := ∃ g, en = .returned (.agg #[.int .u8 2, .int .i64 0, .int .u64 q, .int .u64 p, .int .i64 i, .int .i64 n, .slice (some ⟨g, 0, none⟩) 1 1]) ∧ Ent w' (dltP g q p i n e).ev [(1, e)] ∧ Below w.heap.size w w'
theorem delta_any (q p i n e : Int) (w : World) : Calls Try.prog 22 #[.int .u64 q, .int .u64 p, .int .i64 i, .int .i64 n, .int .i64 e] w (DlPost w q p i n e) := by
  go_enter Try.func22, Try.ntmps22
  go_wp2
  refine bodyPost_ret (results_cell_row rfl _ _ w.heap.size 46 #[.int .u8 2, .int .i64 0, .int .u64 q, .int .u64 p, .int .i64 i, .int .i64 n, .slice (some ⟨w.heap.size + 1, 0, none⟩) 1 1] (0, 0) _ rfl (heap_alloc2_old w _ _) Try.underlying46 rfl (by kernel_rfl)) rfl ⟨w.heap.size + 1, rfl, ⟨_, 1, rfl, Nat.le_refl _, fun _ => ⟨w.heap.size + 1, 0, rfl, by simp, fun j hj => ?_⟩⟩, ((Below.refl _ _).alloc (Nat.le_refl _) _).alloc (by simp) _⟩
  obtain rfl : j = 0 := by simp at hj; omega
  have h := heap_alloc2_new w (.cells #[.int .u8 2, .int .i64 0, .int .u64 q, .int .u64 p, .int .i64 i, .int .i64 n, .slice (some ⟨w.heap.size + 1, 0, none⟩) 1 1] 46) (.cells #[.int .i64 1, .int .i64 e] 40)
  exact ⟨(cell_of_row _ _ 0 _ 40 (0, 0) h).trans rfl, (cell_of_row _ _ 1 _ 40 (0, 0) h).trans rfl⟩
/-- Chains that are equal. -/
theorem alike_yes (w : World) (ve vu xe xu : Value) (la : Int) (en : List (Int × Int)) (us : List Nat) (h1 : Ent w ve en) (h2 : Pls w vu us) (h3 : Ent w xe en) (h4 : Pls w xu us) (hn : en.length ≤ 1000000) (hu : us.length ≤ 1000000) :
    Calls Try.prog 18 #[.agg #[ve, .int .u64 la, vu], .agg #[xe, .int .u64 la, xu]] w (fun e w' => e = .returned (.bool true) ∧ Below w.heap.size w w') := by
  obtain ⟨A1, c1, rfl, _, hr1⟩ := id h1
  obtain ⟨A3, c3, rfl, _, hr3⟩ := id h3
  obtain ⟨A2, c2, rfl, _, hr2⟩ := id h2
  obtain ⟨A4, c4, rfl, _, hr4⟩ := id h4
  have hbw : Below w.heap.size w ((w.alloc (.cells #[.slice A1 en.length c1, .int .u64 la, .slice A2 us.length c2] 52)).alloc (.cells #[.slice A3 en.length c3, .int .u64 la, .slice A4 us.length c4] 52)) := ((Below.refl _ _).alloc (Nat.le_refl _) _).alloc (by simp) _
  have hp2 := h2.below hbw
  have hp4 := h4.below hbw
  have hx0 := heap_alloc2_old w (.cells #[.slice A1 en.length c1, .int .u64 la, .slice A2 us.length c2] 52) (.cells #[.slice A3 en.length c3, .int .u64 la, .slice A4 us.length c4] 52)
  have hx1 := heap_alloc2_new w (.cells #[.slice A1 en.length c1, .int .u64 la, .slice A2 us.length c2] 52) (.cells #[.slice A3 en.length c3, .int .u64 la, .slice A4 us.length c4] 52)
  have HSM := Lib.hid (fun W hW => same_any _ _ en en W (h1.below hW) (h3.below hW) hn hn)
  have hdt : decide (en = en) = true := by simp
  simp only at HSM
  have HP2 := Lib.hid hp2
  have HP4 := Lib.hid hp4
  have HX0 := Lib.hid hx0
  have HX1 := Lib.hid hx1
  have HBW := Lib.hid hbw
  have hul : (us.length : Int) ≤ 1000000 := by omega
  clear h1 h2 h3 h4 hr1 hr2 hr3 hr4 hp2 hp4 hx0 hx1 hbw hdt
  go_enter Try.func18, Try.ntmps18
  go_upto_region 4 with fail
  obtain ⟨W0, hW0⟩ : ∃ W0, W0 = (w.alloc (.cells #[.slice A1 en.length c1, .int .u64 la, .slice A2 us.length c2] 52)).alloc (.cells #[.slice A3 en.length c3, .int .u64 la, .slice A4 us.length c4] 52) := ⟨_, rfl⟩
  rw [← hW0] at HP2 HP4 HX0 HX1 HBW ⊢
  clear hW0
  go_loopw [5] (fun i wr => ∃ (k : Nat), k ≤ us.length ∧ i = .int .i64 k ∧ Hid (Gr W0 wr)) (fun i _ => us.length - (RowKit.intOf i).toNat)
  case atStart => exact ⟨0, Nat.zero_le _, rfl, Gr.refl _⟩
  case round =>
    obtain ⟨k, hk, rfl, HG⟩ := hrel
    have b0 := HG.out.cell ((cell_of_row _ w.heap.size 0 _ 52 (0, 0) HX0.out).trans rfl)
    have b2 := HG.out.cell ((cell_of_row _ w.heap.size 2 _ 52 (0, 0) HX0.out).trans rfl)
    have d0 := HG.out.cell ((cell_of_row _ (w.heap.size + 1) 0 _ 52 (0, 0) HX1.out).trans rfl)
    have d2 := HG.out.cell ((cell_of_row _ (w.heap.size + 1) 2 _ 52 (0, 0) HX1.out).trans rfl)
    by_cases hlt : k < us.length
    · obtain ⟨g, cg, he, _, _, hcg⟩ := (HP2.out.below HG.out.below).at_ hlt
      injection he with e1 _ e2
      subst e1 e2
      obtain ⟨g', cg', he, _, _, hcg'⟩ := (HP4.out.below HG.out.below).at_ hlt
      injection he with e1 _ e2
      subst e1 e2
      have q1 := hcg k hlt
      have q2 := hcg' k hlt
      generalize (us[k] : Nat) = u at *
      have hk0 : (0 : Int) ≤ (k : Int) := by omega
      have hk1 : (k : Int) < (us.length : Int) := by omega
      clear hcg hcg'
      go_wp2
      go_big_quiet (fail)
      go_wp2
      go_roundw
      case rel => exact ⟨k + 1, by omega, by go_num, Lib.hid (HG.out.drewN _)⟩
      case measure => simp [RowKit.intOf]; omega
    · obtain rfl : k = us.length := by omega
      have HBL := Lib.hid (HBW.out.trans (HG.out.below.mono HBW.out.size))
      go_wp2_with ((go_at_call 17; with_reducible refine (HSM.out _ HBL.out).mono ?_); rintro e w2 ⟨rfl, hg2⟩; have HG2 := Lib.hid hg2; clear hg2)
      go_ret
      exact ⟨rfl, HBL.out.trans (HG2.out.below.mono HBL.out.size)⟩
end Go.Proofs.Ytajlddgemkkcdaa
