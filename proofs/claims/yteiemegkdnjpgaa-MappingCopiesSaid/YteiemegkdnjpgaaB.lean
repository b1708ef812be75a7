/- The contracts of content, At, Sector, Valid, Count, Sectors, missing, New. Conditions stand in each theorem. -/
import Derived.Test.YteiemegkdnjpgaaA
namespace Go.Proofs.Yteiemegkdnjpgaa
open Go.RowKit
set_option linter.unusedVariables false
set_option maxHeartbeats 1000000
set_option maxRecDepth 100000
theorem field1 (W : World) (a b c d e f : Value) : (Instr.field 56 (.agg #[a, b, c, d, e, f]) 1).run Try.prog W = .ok d W := by kernel_rfl
theorem field2 (W : World) (a b c d e f : Value) : (Instr.field 56 (.agg #[a, b, c, d, e, f]) 2).run Try.prog W = .ok e W := by kernel_rfl
theorem field0 (W : World) (a b c d e f : Value) : (Instr.field 56 (.agg #[a, b, c, d, e, f]) 0).run Try.prog W = .ok (.agg #[a, b, c]) W := by kernel_rfl
theorem field00 (W : World) (a b c : Value) : (Instr.field 52 (.agg #[a, b, c]) 0).run Try.prog W = .ok a W := by kernel_rfl
section
variable {w w' : World} {base bb m1 m2 g cap s b p : Nat} {L : List (Int × Int)}
theorem content_any (h : Mg w base bb m1 m2 g cap s b p L) : Calls Try.prog 38 #[.pointer (some ⟨bb, 0, none⟩)] w fun e w' => e = .returned (.agg (mgCells s b p m1 m2 g cap)) ∧ Below w.heap.size w w' := by
  obtain ⟨k0, k1, k2, k3, k4, k5⟩ := h.cells
  have hlt := h.lt
  have b0 := below_alloc w (.cells #[.int .i64 0, .int .i64 0, .int .i64 0, .map none, .map none, .slice none 0 0] 56)
  have HM := Lib.hid (h.below b0).blk
  have hne : bb ≠ w.heap.size := by omega
  clear h b0
  unfold mgCells
  go_enter Try.func38, Try.ntmps38
  go_wp2
  refine bodyPost_ret (results_cell_row rfl _ _ w.heap.size 56 (mgCells s b p m1 m2 g cap) (0, 0) _ rfl (heap_alloc_new w _) Try.underlying56 rfl (by kernel_rfl)) rfl ⟨rfl, below_alloc w _⟩
theorem At_any (h : Mg w base bb m1 m2 g cap s b p L) {q : Int} (hq : I64 q) : Calls Try.prog 22 #[.pointer (some ⟨bb, 0, none⟩), .int .i64 q] w fun e w' => e = .returned (.tuple #[.int .i64 ((look L q).getD 0), .bool (look L q).isSome]) ∧ Below w.heap.size w w' := by
  have HC := Lib.hid (content_any h)
  have HM := Lib.hid h
  have HQ := Lib.hid hq
  clear h hq
  unfold mgCells at HC
  have hf := field1
  go_enter Try.func22, Try.ntmps22
  go_wp2_with (((go_at_call 38; with_reducible refine HC.out.mono ?_); rintro e w' ⟨rfl, hb⟩; have HB := Lib.hid hb; have hl := (HM.out.below hb).map1.look_ok HQ.out; clear hb))
  go_ret2
  exact ⟨rfl, HB.out⟩
theorem Sector_any (h : Mg w base bb m1 m2 g cap s b p L) {q : Int} (hq : I64 q) : Calls Try.prog 23 #[.pointer (some ⟨bb, 0, none⟩), .int .i64 q] w fun e w' => e = .returned (.tuple #[.int .i64 ((look (flip L) q).getD 0), .bool (look (flip L) q).isSome]) ∧ Below w.heap.size w w' := by
  have HC := Lib.hid (content_any h)
  have HM := Lib.hid h
  have HQ := Lib.hid hq
  clear h hq
  unfold mgCells at HC
  have hf := field2
  go_enter Try.func23, Try.ntmps23
  go_wp2_with (((go_at_call 38; with_reducible refine HC.out.mono ?_); rintro e w' ⟨rfl, hb⟩; have HB := Lib.hid hb; have hl := (HM.out.below hb).map2.look_ok HQ.out; clear hb))
  go_ret2
  exact ⟨rfl, HB.out⟩
theorem Count_any (h : Mg w base bb m1 m2 g cap s b p L) : Calls Try.prog 25 #[.pointer (some ⟨bb, 0, none⟩)] w fun e w' => e = .returned (.int .i64 (L.length : Int)) ∧ Below w.heap.size w w' := by
  have HC := Lib.hid (content_any h)
  have HM := Lib.hid h
  clear h
  unfold mgCells at HC
  have hf := field1
  go_enter Try.func25, Try.ntmps25
  go_wp2_with (((go_at_call 38; with_reducible refine HC.out.mono ?_); rintro e w' ⟨rfl, hb⟩; have HB := Lib.hid hb; have hl := (HM.out.below hb).map1.len; clear hb))
  go_ret
  exact ⟨rfl, HB.out⟩
theorem Sectors_any (h : Mg w base bb m1 m2 g cap s b p L) : Calls Try.prog 26 #[.pointer (some ⟨bb, 0, none⟩)] w fun e w' => e = .returned (.int .i64 (s : Int)) ∧ Below w.heap.size w w' := by
  have HC := Lib.hid (content_any h)
  clear h
  unfold mgCells at HC
  have hf := field0
  have hf2 := field00
  go_enter Try.func26, Try.ntmps26
  go_wp2_with (((go_at_call 38; with_reducible refine HC.out.mono ?_); rintro e w' ⟨rfl, hb⟩; have HB := Lib.hid hb; clear hb))
  go_ret
  exact ⟨rfl, HB.out⟩
theorem missing_any (h : Mg w base bb m1 m2 g cap s b p L) : Calls Try.prog 31 #[.pointer (some ⟨bb, 0, none⟩)] w fun e w' => e = .returned (.bool false) ∧ Below w.heap.size w w' := by
  have HC := Lib.hid (Sectors_any h)
  have hs := h.fit.hs
  have hs1 : ¬ (s : Int) = 0 := by omega
  have hs2 : ((s : Int) == 0) = false := by rw [beq_eq_false_iff_ne]; exact hs1
  have hs3 : decide ((s : Int) = 0) = false := decide_eq_false hs1
  have hs4 : decide (s = 0) = false := decide_eq_false (by omega)
  clear h hs
  go_enter Try.func31, Try.ntmps31
  go_wp2_with (((go_at_call 26; with_reducible refine HC.out.mono ?_); rintro e w' ⟨rfl, hb⟩; have HB := Lib.hid hb; clear hb))
  go_ret
  exact ⟨rfl, HB.out⟩
/-- The number of pages of a block that are in use. -/
def valid (b p : Nat) (L : List (Int × Int)) (q : Int) : Int := if 0 ≤ q ∧ q < b then cntB p L q else 0
theorem Valid_any (h : Mg w base bb m1 m2 g cap s b p L) (q : Int) : Calls Try.prog 24 #[.pointer (some ⟨bb, 0, none⟩), .int .i64 q] w fun e w' => e = .returned (.int .i64 (valid b p L q)) ∧ Below w.heap.size w w' := by
  have HC := Lib.hid (content_any h)
  have HM := Lib.hid h
  have HH := Lib.hid (fun W => hasBlock_any s b p q W h.fit.hb.2)
  clear h
  unfold mgCells at HC
  by_cases hq : 0 ≤ q ∧ q < b
  · have hd : decide (0 ≤ q ∧ q < b) = true := decide_eq_true hq
    rw [hd] at HH
    have e1 : valid b p L q = cntB p L q := if_pos hq
    rw [e1]
    clear hd e1
    obtain ⟨k, rfl⟩ : ∃ k : Nat, q = k := ⟨q.toNat, by omega⟩
    have hk : k < b := by omega
    clear hq
    go_enter Try.func24, Try.ntmps24
    go_wp2_with (first
      | ((go_at_call 38; with_reducible refine HC.out.mono ?_); rintro e w1 ⟨rfl, hb⟩; have HB := Lib.hid hb; clear hb)
      | ((go_at_call 44; with_reducible refine (HH.out _).mono ?_); rintro e w2 ⟨rfl, hb⟩; have HB2 := Lib.hid hb; have k5 : w2.cell? ⟨w1.heap.size, 5, none⟩ = some (.slice (some ⟨g, 0, none⟩) b cap) := (hb.cell (p := ⟨w1.heap.size, 5, none⟩) (by simp)).trans (by rw [cell_of_row _ _ _ _ _ _ (heap_alloc_new w1 _)]; rfl); have hM2 := (HM.out.below HB.out).below ((below_alloc w1 _).trans (hb.mono (by simp))); have hu := hM2.row.at hk; have HF := Lib.hid (HB.out.trans (((below_alloc w1 _).trans (hb.mono (by simp))).mono HB.out.size)); clear hb hM2))
    go_ret
    exact ⟨rfl, HF.out⟩
  · have hd : decide (0 ≤ q ∧ q < b) = false := decide_eq_false hq
    rw [hd] at HH
    have e1 : valid b p L q = 0 := if_neg hq
    rw [e1]
    clear hd e1 hq
    go_enter Try.func24, Try.ntmps24
    go_wp2_with (first
      | ((go_at_call 38; with_reducible refine HC.out.mono ?_); rintro e w1 ⟨rfl, hb⟩; have HB := Lib.hid hb; clear hb)
      | ((go_at_call 44; with_reducible refine (HH.out _).mono ?_); rintro e w2 ⟨rfl, hb⟩; have HF := Lib.hid (HB.out.trans (((below_alloc w1 _).trans (hb.mono (by simp))).mono HB.out.size)); clear hb))
    go_ret
    exact ⟨rfl, HF.out⟩
end
end Go.Proofs.Yteiemegkdnjpgaa
