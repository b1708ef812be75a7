/- The law's own function look: Take. Conditions stand in each theorem. -/
import Derived.Test.YtmolpnhgmdpdmaaDoorRm
import Derived.IntWalk
namespace Go.Proofs.YtmolpnhgmdpdmaaDoor
open Go.RowKit
set_option linter.unusedVariables false
set_option maxHeartbeats 1000000
set_option maxRecDepth 100000 in
theorem look_2_neg (g : Nat) (vd sv : Value) (A : Option Addr) (c : Nat) (l : List UInt8) (a : Nat) (N : Int) (w : World) (h : Rd w g vd l a) (hB : BytX g w (.slice A l.length c) l) (hl : l.length ≤ 200) (hn : N < 0) :
    Calls Tryd.prog 31 #[.pointer (some ⟨g, 0, none⟩), .slice A l.length c, .int .i64 (a : Int), .agg #[.int .i64 2, .int .i64 N, sv]] w (LPost w g vd l) := by
  have hal := h.le
  obtain ⟨P, q, hrun, hLB⟩ := left_of hB hal
  obtain ⟨m, hm⟩ : ∃ m, l.length - a = m := ⟨_, rfl⟩
  rw [hm] at hrun hLB
  have hm1 : (l.length : Int) = a + m := by omega
  have hm2 : (m : Int) ≤ 200 := by omega
  have ha2 : (a : Int) ≤ 200 := by omega
  have HR := Lib.hid (h.below (alloc_below w (.cells #[.int .i64 2, .int .i64 N, sv] 67)))
  have HLB := Lib.hid (hLB.below (alloc_below w (.cells #[.int .i64 2, .int .i64 N, sv] 67)))
  have Hg := Lib.hid h.lt
  have Hm := Lib.hid hm1
  clear h hB hLB hm hm1
  have he : advE l a N = 2 := advE_neg hn
  have hs := Take_err g vd l a N _ HR.out (by rw [he]; decide)
  rw [he] at hs
  have Hs := Lib.hid hs
  clear he hs
  go_enter Tryd.func31, Tryd.ntmps31
  go_wp2_with fail
  refine (show Calls Tryd.prog 42 _ _ _ from Hs.out).mono ?_
  rintro e w1 ⟨⟨v, rfl, hv⟩, hR, hC⟩
  obtain ⟨Av, cv, rfl, -, -⟩ := hv
  have hc0 := cell_chg (b := w.heap.size) (j := 0) (x := .int .i64 2) hC (by simp) (by have := Hg.out; omega) (by simp)
  have hc1 := cell_chg (b := w.heap.size) (j := 1) (x := .int .i64 N) hC (by simp) (by have := Hg.out; omega) (by simp)
  have hc2 := cell_chg (b := w.heap.size) (j := 2) (x := sv) hC (by simp) (by have := Hg.out; omega) (by simp)
  have HQ := Lib.hid hR; have HC := Lib.hid (chg_box (alloc_below w _) hC)
  clear hR hC Hs HR HLB
  go_wp2
  go_ret2
  exact ⟨a, rfl, HQ.out, HC.out⟩
set_option maxRecDepth 100000 in
theorem look_2_short (g : Nat) (vd sv : Value) (A : Option Addr) (c : Nat) (l : List UInt8) (a : Nat) (N : Int) (w : World) (h : Rd w g vd l a) (hB : BytX g w (.slice A l.length c) l) (hl : l.length ≤ 200) (h0 : 0 ≤ N) (hn : (l.length : Int) < a + N) :
    Calls Tryd.prog 31 #[.pointer (some ⟨g, 0, none⟩), .slice A l.length c, .int .i64 (a : Int), .agg #[.int .i64 2, .int .i64 N, sv]] w (LPost w g vd l) := by
  have hal := h.le
  obtain ⟨P, q, hrun, hLB⟩ := left_of hB hal
  obtain ⟨m, hm⟩ : ∃ m, l.length - a = m := ⟨_, rfl⟩
  rw [hm] at hrun hLB
  have hm1 : (l.length : Int) = a + m := by omega
  have hm2 : (m : Int) ≤ 200 := by omega
  have ha2 : (a : Int) ≤ 200 := by omega
  have HR := Lib.hid (h.below (alloc_below w (.cells #[.int .i64 2, .int .i64 N, sv] 67)))
  have HLB := Lib.hid (hLB.below (alloc_below w (.cells #[.int .i64 2, .int .i64 N, sv] 67)))
  have Hg := Lib.hid h.lt
  have Hm := Lib.hid hm1
  clear h hB hLB hm hm1
  have he : advE l a N = 4 := advE_short h0 hn
  have hs := Take_err g vd l a N _ HR.out (by rw [he]; decide)
  rw [he] at hs
  have Hs := Lib.hid hs
  clear he hs
  have hn2 : ¬ N ≤ (m : Int) := by have := Hm.out; omega
  have hn3 : (m : Int) < N := by omega
  clear hn
  go_enter Tryd.func31, Tryd.ntmps31
  go_wp2_with fail
  refine (show Calls Tryd.prog 42 _ _ _ from Hs.out).mono ?_
  rintro e w1 ⟨⟨v, rfl, hv⟩, hR, hC⟩
  obtain ⟨Av, cv, rfl, -, -⟩ := hv
  have hc0 := cell_chg (b := w.heap.size) (j := 0) (x := .int .i64 2) hC (by simp) (by have := Hg.out; omega) (by simp)
  have hc1 := cell_chg (b := w.heap.size) (j := 1) (x := .int .i64 N) hC (by simp) (by have := Hg.out; omega) (by simp)
  have hc2 := cell_chg (b := w.heap.size) (j := 2) (x := sv) hC (by simp) (by have := Hg.out; omega) (by simp)
  have HQ := Lib.hid hR; have HC := Lib.hid (chg_box (alloc_below w _) hC)
  clear hR hC Hs HR HLB
  go_wp2
  go_ret2
  exact ⟨a, rfl, HQ.out, HC.out⟩
set_option maxRecDepth 100000 in
theorem look_2_fits (g : Nat) (vd sv : Value) (A : Option Addr) (c : Nat) (l : List UInt8) (a : Nat) (n : Nat) (w : World) (h : Rd w g vd l a) (hB : BytX g w (.slice A l.length c) l) (hl : l.length ≤ 200) (hn : a + n ≤ l.length) :
    Calls Tryd.prog 31 #[.pointer (some ⟨g, 0, none⟩), .slice A l.length c, .int .i64 (a : Int), .agg #[.int .i64 2, .int .i64 (n : Int), sv]] w (LPost w g vd l) := by
  have hal := h.le
  obtain ⟨P, q, hrun, hLB⟩ := left_of hB hal
  obtain ⟨m, hm⟩ : ∃ m, l.length - a = m := ⟨_, rfl⟩
  rw [hm] at hrun hLB
  have hm1 : (l.length : Int) = a + m := by omega
  have hm2 : (m : Int) ≤ 200 := by omega
  have ha2 : (a : Int) ≤ 200 := by omega
  have HR := Lib.hid (h.below (alloc_below w (.cells #[.int .i64 2, .int .i64 (n : Int), sv] 67)))
  have HLB := Lib.hid (hLB.below (alloc_below w (.cells #[.int .i64 2, .int .i64 (n : Int), sv] 67)))
  have Hg := Lib.hid h.lt
  have Hm := Lib.hid hm1
  clear h hB hLB hm hm1
  have hs := Take_ok g vd l a n _ HR.out hn
  have Hs := Lib.hid hs
  have hn2 : (n : Int) ≤ (m : Int) := by have := Hm.out; omega
  obtain ⟨V, hV, hVB⟩ := head_of (n := n) HLB.out (by omega)
  have HV := Lib.hid hVB
  clear hs hn hVB
  go_enter Tryd.func31, Tryd.ntmps31
  go_wp2_with fail
  refine (show Calls Tryd.prog 42 _ _ _ from Hs.out).mono ?_
  rintro e w1 ⟨⟨v, rfl, hv⟩, hR, hC⟩
  have hc0 := cell_chg (b := w.heap.size) (j := 0) (x := .int .i64 2) hC (by simp) (by have := Hg.out; omega) (by simp)
  have hc1 := cell_chg (b := w.heap.size) (j := 1) (x := .int .i64 (n : Int)) hC (by simp) (by have := Hg.out; omega) (by simp)
  have hc2 := cell_chg (b := w.heap.size) (j := 2) (x := sv) hC (by simp) (by have := Hg.out; omega) (by simp)
  have HQ := Lib.hid hR; have HC := Lib.hid (chg_box (alloc_below w _) hC)
  have HS := Lib.hid (same_later hv (HV.out.chg hC).1)
  clear hR hC Hs HR HLB HV hv
  generalize w.heap.size = B at *
  have hwr : IntKind.i64.wrap ((a : Int) + n) = ((a + n : Nat) : Int) := by rw [IntWalk.i64_in _ (by omega)]; omega
  go_wp2
  go_region_held3 (fun w' => w'.cell? ⟨B, 1, none⟩ = some (.int .i64 (n : Int)) ∧ Bel w1 w') (first | exact ⟨hc1, Bel.refl w1⟩ | exact ⟨hc1, (Bel.refl w1).drew⟩ | assumption | (refine ⟨?_, ?_⟩ <;> assumption) | (subst_vars; assumption))
    (first
      | ((go_at_call 13; with_reducible refine (HS.out _ (by first | assumption | exact And.right (by assumption))).mono ?_); rintro e w' ⟨rfl, rfl⟩))
  go_wp2
  go_ret2
  exact ⟨a + n, rfl, HQ.out.drewN 1, HC.out.trans (T := fun _ => False) ⟨rfl, rfl, rfl, Nat.le_refl _, fun _ _ _ => rfl⟩ (fun i hi _ => hi.elim)⟩
end Go.Proofs.YtmolpnhgmdpdmaaDoor
