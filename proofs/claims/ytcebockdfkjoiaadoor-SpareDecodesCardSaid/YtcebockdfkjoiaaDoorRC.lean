/- The walk of SpareEncodes. Condition: the table lies as the program's text lays it. -/
import Derived.Test.YtcebockdfkjoiaaDoorRB
namespace Go.Proofs.YtcebockdfkjoiaaDoor
open Go.RowKit
set_option linter.unusedVariables false
set_option maxHeartbeats 8000000
set_option maxRecDepth 100000

theorem step_callg {ops : Array Oper} {o : Oper} {a : Act} {W : World} {K : Act → World → Prop} {Q : Exit → Act → World → Prop} {E : Prop} {f : FuncId} {args : Array Value} {R : Ending → World → Prop} (hw : Region.wanted o (yielded ops a.tmps) = true)
    (xs : Array Operand) (ts : Array TypeId) (ho : o.op = .call { callee := .value (.func f), args := xs, argTypes := ts }) (hc : Calls Tryd.prog f args W R) (hrun : (execOp a.eval o).run Tryd.prog W = .ok (.enter f args) W) (h : ∀ e w', R e w' → ∃ v, e = .returned v ∧ K (a.put o.dst v) w') :
    if Region.wanted o (yielded ops a.tmps) = true then Oper.wp Tryd.prog o a W K Q else E := by
  rw [if_pos hw]
  unfold Oper.wp
  rw [hrun, Oper.upon_enter]
  refine hc.mono fun e w' hr => ?_
  obtain ⟨v, rfl, hk⟩ := h e w' hr
  exact hk
theorem sp_cells {W : World} {n : Nat} {s : Sp} (h : W.heap[n]? = some (.cells #[.int .u8 (s.kind : Int), .int .i64 s.sector, .int .u64 (s.seq : Int), .int .u64 (s.prev : Int), .int .i64 s.index, .int .i64 s.length] 25 (0, 0))) : W.cell? ⟨n, 0, none⟩ = some (.int .u8 (s.kind : Int)) ∧ W.cell? ⟨n, 1, none⟩ = some (.int .i64 s.sector) ∧ W.cell? ⟨n, 2, none⟩ = some (.int .u64 (s.seq : Int)) ∧ W.cell? ⟨n, 3, none⟩ = some (.int .u64 (s.prev : Int)) ∧ W.cell? ⟨n, 4, none⟩ = some (.int .i64 s.index) ∧ W.cell? ⟨n, 5, none⟩ = some (.int .i64 s.length) :=
  ⟨cell_of_row _ _ 0 _ _ _ h, cell_of_row _ _ 1 _ _ _ h, cell_of_row _ _ 2 _ _ _ h, cell_of_row _ _ 3 _ _ _ h, cell_of_row _ _ 4 _ _ _ h, cell_of_row _ _ 5 _ _ _ h⟩
theorem one_append (W : World) (v : Value) (data : List UInt8) (h1 : Byt W v data) (n1 : data.length ≤ 1000) :
    ∃ va wa, (Builtin.append_ #[26, 26] 26 #[.slice (some ⟨W.heap.size, 0, none⟩) 0 0, v]).run Tryd.prog (W.alloc (.cells #[] 5)) = .ok va wa ∧ wa.ownsRow W.heap.size 5 1 va data.length (bv data) ∧ Below W.heap.size W wa := by
  have b0 := below_alloc W (.cells #[] 5)
  obtain ⟨va, wa, hr1, o1, g1, -⟩ := run_append_own_src (W.alloc (.cells #[] 5)) W.heap.size 0 (.slice (some ⟨W.heap.size, 0, none⟩) 0 0) v [] data 26 (World.ownsRow_made W #[] 0 (Nat.le_refl _) (by simp) rfl) (h1.below b0) (by omega) (by simp)
  rw [List.nil_append, Nat.zero_add] at o1
  exact ⟨va, wa, hr1, o1, b0.grown g1 (by simp) (by simp [Value.ownBlock])⟩
theorem encodes_walk (s : Sp) (v : Value) (data : List UInt8) (w : World) (hT : Tabs w) (h : Byt w v data) (hn : data.length ≤ maxLen) (hw : s.wf) :
    Calls Tryd.prog 3 #[s.val, v] w fun e w' => e = .returned (.bool true) ∧ Below w.heap.size w w' := by
  unfold maxLen at hn
  have HT := Lib.hid hT; have H := Lib.hid h; have Hw := Lib.hid hw; clear hT hw
  obtain ⟨A0, cA, rfl, -, -⟩ := h
  have b0 := below_alloc w (.cells #[.int .u8 (s.kind : Int), .int .i64 s.sector, .int .u64 (s.seq : Int), .int .u64 (s.prev : Int), .int .i64 s.index, .int .i64 s.length] 25)
  have HB0 := Lib.hid b0
  by_cases h1 : 300 < data.length
  · have g1 : (300 : Int) < data.length := by omega
    clear b0
    unfold Sp.val
    go_enter Tryd.func3, Tryd.ntmps3
    go_wp2_with fail
    refine (works_any _ (HT.out.below HB0.out)).mono ?_
    rintro e w3 ⟨rfl, hb3⟩
    have Hb3 := Lib.hid (below_step HB0.out hb3); clear hb3
    go_wp2
    go_ret
    exact ⟨rfl, Hb3.out⟩
  · have g1 : decide ((300 : Int) < data.length) = false := decide_eq_false (by omega)
    obtain ⟨va, wa, hr1, ho, hba⟩ := one_append (w.alloc (.cells #[.int .u8 (s.kind : Int), .int .i64 s.sector, .int .u64 (s.seq : Int), .int .u64 (s.prev : Int), .int .i64 s.index, .int .i64 s.length] 25)) (.slice A0 data.length cA) data (H.out.below b0) (by omega)
    rw [World.size_alloc] at hr1
    have Hr1 := Lib.hid hr1
    have HBa := Lib.hid (below_step b0 hba)
    have HRa := Lib.hid (row_later (heap_alloc_new w (.cells #[.int .u8 (s.kind : Int), .int .i64 s.sector, .int .u64 (s.seq : Int), .int .u64 (s.prev : Int), .int .i64 s.index, .int .i64 s.length] 25)) hba)
    have HO := Lib.hid (Byt.of_own ho)
    clear hr1 ho hba b0
    obtain ⟨A1, c1, hv, -, -⟩ := HO.out
    subst hv
    obtain ⟨E, hE⟩ : ∃ E : Int, E = if s.ok then 0 else 2 := ⟨_, rfl⟩
    obtain ⟨L, hL⟩ : ∃ L : List UInt8, L = if s.ok then s.enc data else [] := ⟨_, rfl⟩
    have HE : Hid (∀ v W, Tabs W → Byt W v data → Calls Tryd.prog 9 #[.agg #[.int .u8 (s.kind : Int), .int .i64 s.sector, .int .u64 (s.seq : Int), .int .u64 (s.prev : Int), .int .i64 s.index, .int .i64 s.length], v] W fun e w' => (∃ r, e = .returned (.tuple #[r, .int .i64 E]) ∧ Byt w' r L) ∧ Below W.heap.size W w') := Lib.hid fun v W hT hB => by
      refine (Encode_any s v data W hT hB (by unfold maxLen; omega) Hw.out).mono ?_
      rintro e w' ⟨⟨r, h1, h2, h3⟩, h4⟩
      rw [← hE] at h1; rw [← hL] at h2
      exact ⟨⟨r, h1, h2⟩, h4⟩
    have HF : Hid (∀ v W, Byt W v data → Calls Tryd.prog 10 #[.agg #[.int .u8 (s.kind : Int), .int .i64 s.sector, .int .u64 (s.seq : Int), .int .u64 (s.prev : Int), .int .i64 s.index, .int .i64 s.length], v] W fun e w' => (∃ r, e = .returned (.tuple #[r, .int .i64 E]) ∧ Byt w' r L) ∧ Below W.heap.size W w') := Lib.hid fun v W hB => by
      refine (rEncode_any s v data W hB (by omega) Hw.out).mono ?_
      rintro e w' ⟨⟨r, h1, h2, h3⟩, h4⟩
      rw [← hE] at h1; rw [← hL] at h2
      exact ⟨⟨r, h1, h2⟩, h4⟩
    obtain ⟨d, hd⟩ : ∃ d : Bool, d = decide s.ok := ⟨_, rfl⟩
    have HV1 : Hid (∀ W, Calls Tryd.prog 13 #[.agg #[.int .u8 (s.kind : Int), .int .i64 s.sector, .int .u64 (s.seq : Int), .int .u64 (s.prev : Int), .int .i64 s.index, .int .i64 s.length]] W fun e w' => e = .returned (.bool d) ∧ Below W.heap.size W w') := Lib.hid fun W => by rw [hd]; exact Valid_any s Hw.out W
    have HV2 : Hid (∀ W, Calls Tryd.prog 14 #[.agg #[.int .u8 (s.kind : Int), .int .i64 s.sector, .int .u64 (s.seq : Int), .int .u64 (s.prev : Int), .int .i64 s.index, .int .i64 s.length]] W fun e w' => e = .returned (.bool d) ∧ Below W.heap.size W w') := Lib.hid fun W => by rw [hd]; exact rValid_any s Hw.out W
    clear hE hL hd
    unfold Sp.val
    go_enter Tryd.func3, Tryd.ntmps3
    have hca := sp_cells HRa.out
    obtain ⟨k0, k1, k2, k3, k4, k5⟩ := hca
    go_wp2_with (at_builtin; refine wpList_append_run rfl (.tmp 14) (.tmp 15) 26 26 rfl _ _ _ wa rfl rfl Hr1.out ?_)
    refine (HE.out _ wa (HT.out.below HBa.out) HO.out).mono ?_
    rintro e W1 ⟨⟨r, rfl, hr⟩, hb⟩
    have HB1 := Lib.hid (below_step HBa.out hb); have HR1 := Lib.hid (row_later HRa.out hb); have HO1 := Lib.hid (HO.out.below hb); have Hr := Lib.hid hr
    clear hb hr HBa HRa HO k0 k1 k2 k3 k4 k5
    obtain ⟨k0, k1, k2, k3, k4, k5⟩ := sp_cells HR1.out
    obtain ⟨A2, c2, hv, -, -⟩ := Hr.out
    subst hv
    go_wp2_with fail
    refine (HF.out _ W1 (H.out.below HB1.out)).mono ?_
    rintro e W2 ⟨⟨r, rfl, hr2⟩, hb⟩
    have HB2 := Lib.hid (below_step HB1.out hb); have HR2 := Lib.hid (row_later HR1.out hb); have HO2 := Lib.hid (HO1.out.below hb); have Hra := Lib.hid (Hr.out.below hb); have Hrb := Lib.hid hr2
    clear hb hr2 HB1 HR1 HO1 Hr k0 k1 k2 k3 k4 k5
    obtain ⟨A3, c3, hv, -, -⟩ := Hrb.out
    subst hv
    have HS1 := Lib.hid (show Calls Tryd.prog 11 #[_, _] W2.drew _ from same_any _ _ L L W2.drew (Hra.out.below (Below.refl _ _).drew) (Hrb.out.below (Below.refl _ _).drew))
    have HS2 := Lib.hid (show Calls Tryd.prog 11 #[_, _] W2.drew _ from same_any _ _ data data W2.drew (HO2.out.below (Below.refl _ _).drew) ((H.out.below HB2.out).below (Below.refl _ _).drew))
    rw [decide_eq_true rfl] at HS1 HS2
    obtain ⟨k0, k1, k2, k3, k4, k5⟩ := sp_cells HR2.out
    have hst : ∀ W, Bel W2 W → Bel W2 W ∧ W.cell? ⟨w.heap.size, 0, none⟩ = some (.int .u8 (s.kind : Int)) ∧ W.cell? ⟨w.heap.size, 1, none⟩ = some (.int .i64 s.sector) ∧ W.cell? ⟨w.heap.size, 2, none⟩ = some (.int .u64 (s.seq : Int)) ∧ W.cell? ⟨w.heap.size, 3, none⟩ = some (.int .u64 (s.prev : Int)) ∧ W.cell? ⟨w.heap.size, 4, none⟩ = some (.int .i64 s.index) ∧ W.cell? ⟨w.heap.size, 5, none⟩ = some (.int .i64 s.length) := fun W hW => ⟨hW, sp_cells (row_later HR2.out hW)⟩
    have Hst := Lib.hid hst
    have X1 := Lib.hid (fun (W : World) (hW : Bel W2 W ∧ W.cell? ⟨w.heap.size, 0, none⟩ = some (.int .u8 (s.kind : Int)) ∧ W.cell? ⟨w.heap.size, 1, none⟩ = some (.int .i64 s.sector) ∧ W.cell? ⟨w.heap.size, 2, none⟩ = some (.int .u64 (s.seq : Int)) ∧ W.cell? ⟨w.heap.size, 3, none⟩ = some (.int .u64 (s.prev : Int)) ∧ W.cell? ⟨w.heap.size, 4, none⟩ = some (.int .i64 s.index) ∧ W.cell? ⟨w.heap.size, 5, none⟩ = some (.int .i64 s.length)) => (show Calls Tryd.prog 11 #[.slice A2 L.length c2, .slice A3 L.length c3] W fun e w' => e = .returned (.bool true) ∧ W = w' by have := same_any _ _ L L W (Hra.out.below hW.1) (Hrb.out.below hW.1); rwa [decide_eq_true rfl] at this))
    have X2 := Lib.hid (fun (W : World) (hW : Bel W2 W ∧ W.cell? ⟨w.heap.size, 0, none⟩ = some (.int .u8 (s.kind : Int)) ∧ W.cell? ⟨w.heap.size, 1, none⟩ = some (.int .i64 s.sector) ∧ W.cell? ⟨w.heap.size, 2, none⟩ = some (.int .u64 (s.seq : Int)) ∧ W.cell? ⟨w.heap.size, 3, none⟩ = some (.int .u64 (s.prev : Int)) ∧ W.cell? ⟨w.heap.size, 4, none⟩ = some (.int .i64 s.index) ∧ W.cell? ⟨w.heap.size, 5, none⟩ = some (.int .i64 s.length)) => (show Calls Tryd.prog 11 #[.slice A1 data.length c1, .slice A0 data.length cA] W fun e w' => e = .returned (.bool true) ∧ W = w' by have := same_any _ _ data data W (HO2.out.below hW.1) (H.out.below (below_step HB2.out hW.1)); rwa [decide_eq_true rfl] at this))
    have X3 := Lib.hid (fun (W' : World) (hW : Bel W2 W' ∧ W'.cell? ⟨w.heap.size, 0, none⟩ = some (.int .u8 (s.kind : Int)) ∧ W'.cell? ⟨w.heap.size, 1, none⟩ = some (.int .i64 s.sector) ∧ W'.cell? ⟨w.heap.size, 2, none⟩ = some (.int .u64 (s.seq : Int)) ∧ W'.cell? ⟨w.heap.size, 3, none⟩ = some (.int .u64 (s.prev : Int)) ∧ W'.cell? ⟨w.heap.size, 4, none⟩ = some (.int .i64 s.index) ∧ W'.cell? ⟨w.heap.size, 5, none⟩ = some (.int .i64 s.length)) => (show Calls Tryd.prog 13 #[.agg #[.int .u8 (s.kind : Int), .int .i64 s.sector, .int .u64 (s.seq : Int), .int .u64 (s.prev : Int), .int .i64 s.index, .int .i64 s.length]] W' fun e w' => e = .returned (.bool d) ∧ Bel W2 w' ∧ w'.cell? ⟨w.heap.size, 0, none⟩ = some (.int .u8 (s.kind : Int)) ∧ w'.cell? ⟨w.heap.size, 1, none⟩ = some (.int .i64 s.sector) ∧ w'.cell? ⟨w.heap.size, 2, none⟩ = some (.int .u64 (s.seq : Int)) ∧ w'.cell? ⟨w.heap.size, 3, none⟩ = some (.int .u64 (s.prev : Int)) ∧ w'.cell? ⟨w.heap.size, 4, none⟩ = some (.int .i64 s.index) ∧ w'.cell? ⟨w.heap.size, 5, none⟩ = some (.int .i64 s.length) from (HV1.out W').mono fun e w' ⟨h1, h2⟩ => ⟨h1, hst w' (Bel.step hW.1 h2)⟩))
    have X4 := Lib.hid (fun (W' : World) (hW : Bel W2 W' ∧ W'.cell? ⟨w.heap.size, 0, none⟩ = some (.int .u8 (s.kind : Int)) ∧ W'.cell? ⟨w.heap.size, 1, none⟩ = some (.int .i64 s.sector) ∧ W'.cell? ⟨w.heap.size, 2, none⟩ = some (.int .u64 (s.seq : Int)) ∧ W'.cell? ⟨w.heap.size, 3, none⟩ = some (.int .u64 (s.prev : Int)) ∧ W'.cell? ⟨w.heap.size, 4, none⟩ = some (.int .i64 s.index) ∧ W'.cell? ⟨w.heap.size, 5, none⟩ = some (.int .i64 s.length)) => (show Calls Tryd.prog 14 #[.agg #[.int .u8 (s.kind : Int), .int .i64 s.sector, .int .u64 (s.seq : Int), .int .u64 (s.prev : Int), .int .i64 s.index, .int .i64 s.length]] W' fun e w' => e = .returned (.bool d) ∧ Bel W2 w' ∧ w'.cell? ⟨w.heap.size, 0, none⟩ = some (.int .u8 (s.kind : Int)) ∧ w'.cell? ⟨w.heap.size, 1, none⟩ = some (.int .i64 s.sector) ∧ w'.cell? ⟨w.heap.size, 2, none⟩ = some (.int .u64 (s.seq : Int)) ∧ w'.cell? ⟨w.heap.size, 3, none⟩ = some (.int .u64 (s.prev : Int)) ∧ w'.cell? ⟨w.heap.size, 4, none⟩ = some (.int .i64 s.index) ∧ w'.cell? ⟨w.heap.size, 5, none⟩ = some (.int .i64 s.length) from (HV2.out W').mono fun e w' ⟨h1, h2⟩ => ⟨h1, hst w' (Bel.step hW.1 h2)⟩))
    have X5 := Lib.hid (fun (W' : World) (hW : Bel W2 W' ∧ W'.cell? ⟨w.heap.size, 0, none⟩ = some (.int .u8 (s.kind : Int)) ∧ W'.cell? ⟨w.heap.size, 1, none⟩ = some (.int .i64 s.sector) ∧ W'.cell? ⟨w.heap.size, 2, none⟩ = some (.int .u64 (s.seq : Int)) ∧ W'.cell? ⟨w.heap.size, 3, none⟩ = some (.int .u64 (s.prev : Int)) ∧ W'.cell? ⟨w.heap.size, 4, none⟩ = some (.int .i64 s.index) ∧ W'.cell? ⟨w.heap.size, 5, none⟩ = some (.int .i64 s.length)) => (show Calls Tryd.prog 8 #[] W' fun e w' => e = .returned (.bool true) ∧ Bel W2 w' ∧ w'.cell? ⟨w.heap.size, 0, none⟩ = some (.int .u8 (s.kind : Int)) ∧ w'.cell? ⟨w.heap.size, 1, none⟩ = some (.int .i64 s.sector) ∧ w'.cell? ⟨w.heap.size, 2, none⟩ = some (.int .u64 (s.seq : Int)) ∧ w'.cell? ⟨w.heap.size, 3, none⟩ = some (.int .u64 (s.prev : Int)) ∧ w'.cell? ⟨w.heap.size, 4, none⟩ = some (.int .i64 s.index) ∧ w'.cell? ⟨w.heap.size, 5, none⟩ = some (.int .i64 s.length) from (works_any W' (HT.out.below (below_step HB2.out hW.1))).mono fun e w' ⟨h1, h2⟩ => ⟨h1, hst w' (Bel.step hW.1 h2)⟩))
    clear HS1 HS2 hst k0 k1 k2 k3 k4 k5
    go_wp2
    go_region_held3 (fun W => Bel W2 W ∧ W.cell? ⟨w.heap.size, 0, none⟩ = some (.int .u8 (s.kind : Int)) ∧ W.cell? ⟨w.heap.size, 1, none⟩ = some (.int .i64 s.sector) ∧ W.cell? ⟨w.heap.size, 2, none⟩ = some (.int .u64 (s.seq : Int)) ∧ W.cell? ⟨w.heap.size, 3, none⟩ = some (.int .u64 (s.prev : Int)) ∧ W.cell? ⟨w.heap.size, 4, none⟩ = some (.int .i64 s.index) ∧ W.cell? ⟨w.heap.size, 5, none⟩ = some (.int .i64 s.length)) (first | assumption | exact Hst.out _ (Bel.refl W2).drew | exact Hst.out _ (Bel.refl W2))
      (first
        | ((go_at_call 11; with_reducible refine (X1.out _ (by assumption)).mono ?_); rintro e w' ⟨rfl, rfl⟩)
        | ((go_at_call 11; with_reducible refine (X2.out _ (by assumption)).mono ?_); rintro e w' ⟨rfl, rfl⟩)
        | ((go_at_call 12; with_reducible refine (num_any E _).mono ?_); rintro e w' ⟨rfl, rfl⟩)
        | ((go_at_call 13; with_reducible refine (X3.out _ (by assumption)).mono ?_); rintro e w' ⟨rfl, hw'⟩)
        | ((go_at_call 14; with_reducible refine (X4.out _ (by assumption)).mono ?_); rintro e w' ⟨rfl, hw'⟩)
        | ((go_at_call 8; with_reducible refine (X5.out _ (by assumption)).mono ?_); rintro e w' ⟨rfl, hw'⟩))
    have Hb9 := Lib.hid (below_step HB2.out hw'.1)
    clear hw'
    go_wp2
    go_ret
    exact ⟨rfl, Hb9.out⟩
end Go.Proofs.YtcebockdfkjoiaaDoor
