/- The law's own function look: Next. Conditions stand in each theorem. -/
import Derived.Test.YtmolpnhgmdpdmaaDoorRq
import Derived.IntWalk
namespace Go.Proofs.YtmolpnhgmdpdmaaDoor
open Go.RowKit
set_option linter.unusedVariables false
set_option maxHeartbeats 1000000
theorem ints_one (w : World) (N : Int) : Ints .i64 (w.alloc (.cells #[.int .i64 N] 3)) (.slice (some ⟨w.heap.size, 0, none⟩) 1 1) [N] := by
  refine ⟨_, 1, rfl, by simp, fun _ => ⟨w.heap.size, 0, rfl, by simp, fun j hj => ?_⟩⟩
  have e : j = 0 := by simp at hj; omega
  subst e
  rw [Nat.zero_add, cell_of_row _ w.heap.size 0 _ 3 (0, 0) (heap_alloc_new w _)]; rfl
theorem one_err (l : List UInt8) (a : Nat) (N : Int) (h : a ≤ l.length) : rdAllE (l.drop a) 0 [N] = rdE l a N := by
  rw [rdAllE_drop h, Nat.add_zero]
  simp only [rdAllE]
  split <;> simp_all
set_option maxRecDepth 100000 in
theorem look_0_err (g : Nat) (vd sv : Value) (A : Option Addr) (c : Nat) (l : List UInt8) (a : Nat) (N : Int) (w : World) (h : Rd w g vd l a) (hB : BytX g w (.slice A l.length c) l) (hl : l.length ≤ 200) (he : rdE l a N ≠ 0) :
    Calls Tryd.prog 31 #[.pointer (some ⟨g, 0, none⟩), .slice A l.length c, .int .i64 (a : Int), .agg #[.int .i64 0, .int .i64 N, sv]] w (LPost w g vd l) := by
  have hal := h.le
  obtain ⟨P, q, hrun, hLB⟩ := left_of hB hal
  obtain ⟨m, hm⟩ : ∃ m, l.length - a = m := ⟨_, rfl⟩
  rw [hm] at hrun hLB
  have hm1 : (l.length : Int) = a + m := by omega
  have hm2 : (m : Int) ≤ 200 := by omega
  have ha2 : (a : Int) ≤ 200 := by omega
  have HR := Lib.hid (h.below (alloc_below w (.cells #[.int .i64 0, .int .i64 N, sv] 67)))
  have HLB := Lib.hid (hLB.below (alloc_below w (.cells #[.int .i64 0, .int .i64 N, sv] 67)))
  have Hg := Lib.hid h.lt
  have Hm := Lib.hid hm1
  clear h hB hLB hm hm1
  have hcall := Next_err g vd l a N _ HR.out he
  have HE := Lib.hid (one_err l a N hal)
  obtain ⟨E, hE⟩ : ∃ E, rdE l a N = E := ⟨_, rfl⟩
  rw [hE] at hcall he HE
  have Hcall := Lib.hid hcall; have Hne := Lib.hid he
  have f1 : (E != 0) = true := bne_iff_ne.2 he
  have f2 : ¬ E = 0 := he
  clear hcall he hE
  rcases three N m with hn | ⟨hn, hn2⟩ | ⟨hn, hn2⟩
  · go_enter Tryd.func31, Tryd.ntmps31
    go_wp2_with fail
    refine (show Calls Tryd.prog 41 _ _ _ from Hcall.out).mono ?_
    rintro e w1 ⟨rfl, hR, hC⟩
    have hc0 := cell_chg (b := w.heap.size) (j := 0) (x := .int .i64 0) hC (by simp) (by have := Hg.out; omega) (by simp)
    have hc1 := cell_chg (b := w.heap.size) (j := 1) (x := .int .i64 N) hC (by simp) (by have := Hg.out; omega) (by simp)
    have hc2 := cell_chg (b := w.heap.size) (j := 2) (x := sv) hC (by simp) (by have := Hg.out; omega) (by simp)
    have HQ := Lib.hid (hR.below (alloc_below w1 (.cells #[.int .i64 N] 3))); have HC := Lib.hid (chg_later (chg_box (alloc_below w _) hC) (alloc_below w1 (.cells #[.int .i64 N] 3)))
    have HG := Lib.hid (refGetAll_any _ _ (l.drop a) [N] _ ((HLB.out.chg hC).1.below (alloc_below w1 (.cells #[.int .i64 N] 3))) (by rw [List.length_drop]; omega) (ints_one w1 N) (by simp))
    clear hR hC Hcall HR HLB
    go_wp2_with fail
    refine (show Calls Tryd.prog 57 _ _ _ from HG.out).mono ?_
    rintro e w2 ⟨⟨h0, -⟩ | ⟨-, rfl⟩, hb⟩
    · exact absurd (HE.out.symm.trans h0) Hne.out
    rw [HE.out]
    have Hb := Lib.hid hb; clear hb HG HE
    go_wp2
    go_quiet (fail)
    go_wp2
    go_ret2
    exact ⟨a, rfl, (HQ.out.below Hb.out).drewN _, (chg_later HC.out Hb.out).trans (T := fun _ => False) ⟨rfl, rfl, rfl, Nat.le_refl _, fun _ _ _ => rfl⟩ (fun i hi _ => hi.elim)⟩
  · go_enter Tryd.func31, Tryd.ntmps31
    go_wp2_with fail
    refine (show Calls Tryd.prog 41 _ _ _ from Hcall.out).mono ?_
    rintro e w1 ⟨rfl, hR, hC⟩
    have hc0 := cell_chg (b := w.heap.size) (j := 0) (x := .int .i64 0) hC (by simp) (by have := Hg.out; omega) (by simp)
    have hc1 := cell_chg (b := w.heap.size) (j := 1) (x := .int .i64 N) hC (by simp) (by have := Hg.out; omega) (by simp)
    have hc2 := cell_chg (b := w.heap.size) (j := 2) (x := sv) hC (by simp) (by have := Hg.out; omega) (by simp)
    have HQ := Lib.hid (hR.below (alloc_below w1 (.cells #[.int .i64 N] 3))); have HC := Lib.hid (chg_later (chg_box (alloc_below w _) hC) (alloc_below w1 (.cells #[.int .i64 N] 3)))
    have HG := Lib.hid (refGetAll_any _ _ (l.drop a) [N] _ ((HLB.out.chg hC).1.below (alloc_below w1 (.cells #[.int .i64 N] 3))) (by rw [List.length_drop]; omega) (ints_one w1 N) (by simp))
    clear hR hC Hcall HR HLB
    go_wp2_with fail
    refine (show Calls Tryd.prog 57 _ _ _ from HG.out).mono ?_
    rintro e w2 ⟨⟨h0, -⟩ | ⟨-, rfl⟩, hb⟩
    · exact absurd (HE.out.symm.trans h0) Hne.out
    rw [HE.out]
    have Hb := Lib.hid hb; clear hb HG HE
    go_wp2
    go_quiet (fail)
    go_wp2
    go_ret2
    exact ⟨a, rfl, (HQ.out.below Hb.out).drewN _, (chg_later HC.out Hb.out).trans (T := fun _ => False) ⟨rfl, rfl, rfl, Nat.le_refl _, fun _ _ _ => rfl⟩ (fun i hi _ => hi.elim)⟩
  · go_enter Tryd.func31, Tryd.ntmps31
    go_wp2_with fail
    refine (show Calls Tryd.prog 41 _ _ _ from Hcall.out).mono ?_
    rintro e w1 ⟨rfl, hR, hC⟩
    have hc0 := cell_chg (b := w.heap.size) (j := 0) (x := .int .i64 0) hC (by simp) (by have := Hg.out; omega) (by simp)
    have hc1 := cell_chg (b := w.heap.size) (j := 1) (x := .int .i64 N) hC (by simp) (by have := Hg.out; omega) (by simp)
    have hc2 := cell_chg (b := w.heap.size) (j := 2) (x := sv) hC (by simp) (by have := Hg.out; omega) (by simp)
    have HQ := Lib.hid (hR.below (alloc_below w1 (.cells #[.int .i64 N] 3))); have HC := Lib.hid (chg_later (chg_box (alloc_below w _) hC) (alloc_below w1 (.cells #[.int .i64 N] 3)))
    have HG := Lib.hid (refGetAll_any _ _ (l.drop a) [N] _ ((HLB.out.chg hC).1.below (alloc_below w1 (.cells #[.int .i64 N] 3))) (by rw [List.length_drop]; omega) (ints_one w1 N) (by simp))
    clear hR hC Hcall HR HLB
    go_wp2_with fail
    refine (show Calls Tryd.prog 57 _ _ _ from HG.out).mono ?_
    rintro e w2 ⟨⟨h0, -⟩ | ⟨-, rfl⟩, hb⟩
    · exact absurd (HE.out.symm.trans h0) Hne.out
    rw [HE.out]
    have Hb := Lib.hid hb; clear hb HG HE
    go_wp2
    go_quiet (fail)
    go_wp2
    go_ret2
    exact ⟨a, rfl, (HQ.out.below Hb.out).drewN _, (chg_later HC.out Hb.out).trans (T := fun _ => False) ⟨rfl, rfl, rfl, Nat.le_refl _, fun _ _ _ => rfl⟩ (fun i hi _ => hi.elim)⟩
set_option maxRecDepth 100000 in
theorem look_0_ok (g : Nat) (vd sv : Value) (A : Option Addr) (c : Nat) (l : List UInt8) (a : Nat) (n : Nat) (w : World) (h : Rd w g vd l a) (hB : BytX g w (.slice A l.length c) l) (hl : l.length ≤ 200) (h1 : 1 ≤ n) (h8 : n ≤ 8) (hn : a + n ≤ l.length) :
    Calls Tryd.prog 31 #[.pointer (some ⟨g, 0, none⟩), .slice A l.length c, .int .i64 (a : Int), .agg #[.int .i64 0, .int .i64 (n : Int), sv]] w (LPost w g vd l) := by
  have hal := h.le
  obtain ⟨P, q, hrun, hLB⟩ := left_of hB hal
  obtain ⟨m, hm⟩ : ∃ m, l.length - a = m := ⟨_, rfl⟩
  rw [hm] at hrun hLB
  have hm1 : (l.length : Int) = a + m := by omega
  have hm2 : (m : Int) ≤ 200 := by omega
  have ha2 : (a : Int) ≤ 200 := by omega
  have HR := Lib.hid (h.below (alloc_below w (.cells #[.int .i64 0, .int .i64 (n : Int), sv] 67)))
  have HLB := Lib.hid (hLB.below (alloc_below w (.cells #[.int .i64 0, .int .i64 (n : Int), sv] 67)))
  have Hg := Lib.hid h.lt
  have Hm := Lib.hid hm1
  clear h hB hLB hm hm1
  have hcall := Next_ok g vd l a n _ HR.out h1 h8 hn
  have hr0 : rdE l a (n : Int) = 0 := by unfold rdE; rw [if_neg (by omega), if_neg (by omega)]
  have HE := Lib.hid (show rdAllE (l.drop a) 0 [(n : Int)] = 0 by rw [one_err l a n hal]; exact hr0)
  have HV := Lib.hid (show vals (l.drop a) 0 [(n : Int)] = [(getV ((l.drop a).take n) : Int)] by simp [vals])
  have HP := Lib.hid (show endp 0 [(n : Int)] = n by simp [endp])
  obtain ⟨X, hX⟩ : ∃ X, getV ((l.drop a).take n) = X := ⟨_, rfl⟩
  rw [hX] at hcall HV
  have Hcall := Lib.hid hcall
  clear hcall hr0 hX
  have hwr : IntKind.i64.wrap ((a : Int) + n) = ((a + n : Nat) : Int) := by rw [IntWalk.i64_in _ (by omega)]; omega
  have hn0 : (0 : Int) ≤ n := by omega
  have hn2 : (n : Int) ≤ m := by have := Hm.out; omega
  go_enter Tryd.func31, Tryd.ntmps31
  go_wp2_with fail
  refine (show Calls Tryd.prog 41 _ _ _ from Hcall.out).mono ?_
  rintro e w1 ⟨rfl, hR, hC⟩
  have hc0 := cell_chg (b := w.heap.size) (j := 0) (x := .int .i64 0) hC (by simp) (by have := Hg.out; omega) (by simp)
  have hc1 := cell_chg (b := w.heap.size) (j := 1) (x := .int .i64 (n : Int)) hC (by simp) (by have := Hg.out; omega) (by simp)
  have hc2 := cell_chg (b := w.heap.size) (j := 2) (x := sv) hC (by simp) (by have := Hg.out; omega) (by simp)
  have HQ := Lib.hid (hR.below (alloc_below w1 (.cells #[.int .i64 (n : Int)] 3))); have HC := Lib.hid (chg_later (chg_box (alloc_below w _) hC) (alloc_below w1 (.cells #[.int .i64 (n : Int)] 3)))
  have HG := Lib.hid (refGetAll_any _ _ (l.drop a) [(n : Int)] _ ((HLB.out.chg hC).1.below (alloc_below w1 (.cells #[.int .i64 (n : Int)] 3))) (by rw [List.length_drop]; omega) (ints_one w1 (n : Int)) (by simp))
  clear hR hC Hcall HR HLB
  go_wp2_with fail
  refine (show Calls Tryd.prog 57 _ _ _ from HG.out).mono ?_
  rintro e w2 ⟨⟨-, v2, rfl, hv2⟩ | ⟨h0, -⟩, hb⟩
  rotate_left
  · exact absurd HE.out h0
  rw [HP.out]
  rw [HV.out] at hv2
  obtain ⟨Av, cv, rfl, hcv, hrv⟩ := hv2
  obtain ⟨gv, ov, rfl, hgv, hcell⟩ := hrv (by simp)
  have hcx : w2.cell? ⟨gv, ov, none⟩ = some (.int .u64 (X : Int)) := hcell 0 (by simp)
  have Hb := Lib.hid hb; clear hb HG HE hrv hcell hcv hgv
  go_wp2
  go_quiet (fail)
  go_wp2
  go_ret2
  exact ⟨a + n, rfl, (HQ.out.below Hb.out).drewN _, (chg_later HC.out Hb.out).trans (T := fun _ => False) ⟨rfl, rfl, rfl, Nat.le_refl _, fun _ _ _ => rfl⟩ (fun i hi _ => hi.elim)⟩
end Go.Proofs.YtmolpnhgmdpdmaaDoor
