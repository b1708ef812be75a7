/- The law's own function look: Zeros. Conditions stand in each theorem. -/
import Derived.Test.YtmolpnhgmdpdmaaDoorRm
import Derived.IntWalk
namespace Go.Proofs.YtmolpnhgmdpdmaaDoor
open Go.RowKit
set_option linter.unusedVariables false
set_option maxHeartbeats 1000000
theorem allZero_rep {m : List UInt8} {n : Nat} (h : AllZero m) (hn : m.length = n) : m = List.replicate n 0 := by
  subst hn
  apply List.ext_getElem (by simp)
  intro j h1 h2
  rw [h j h1]; simp
set_option maxRecDepth 100000 in
theorem look_3_neg (g : Nat) (vd sv : Value) (A : Option Addr) (c : Nat) (l : List UInt8) (a : Nat) (N : Int) (w : World) (h : Rd w g vd l a) (hB : BytX g w (.slice A l.length c) l) (hl : l.length ≤ 200) (hn : N < 0) :
    Calls Tryd.prog 31 #[.pointer (some ⟨g, 0, none⟩), .slice A l.length c, .int .i64 (a : Int), .agg #[.int .i64 3, .int .i64 N, sv]] w (LPost w g vd l) := by
  have hal := h.le
  obtain ⟨P, q, hrun, hLB⟩ := left_of hB hal
  obtain ⟨m, hm⟩ : ∃ m, l.length - a = m := ⟨_, rfl⟩
  rw [hm] at hrun hLB
  have hm1 : (l.length : Int) = a + m := by omega
  have hm2 : (m : Int) ≤ 200 := by omega
  have ha2 : (a : Int) ≤ 200 := by omega
  have HR := Lib.hid (h.below (alloc_below w (.cells #[.int .i64 3, .int .i64 N, sv] 67)))
  have HLB := Lib.hid (hLB.below (alloc_below w (.cells #[.int .i64 3, .int .i64 N, sv] 67)))
  have Hg := Lib.hid h.lt
  have Hm := Lib.hid hm1
  clear h hB hLB hm hm1
  have he : advE l a N = 2 := advE_neg hn
  have hs := Zeros_err g vd l a N _ HR.out (by rw [he]; decide)
  rw [he] at hs
  have Hs := Lib.hid hs
  clear he hs
  go_enter Tryd.func31, Tryd.ntmps31
  go_wp2_with fail
  refine (show Calls Tryd.prog 43 _ _ _ from Hs.out).mono ?_
  rintro e w1 ⟨rfl, hR, hC⟩
  have hc0 := cell_chg (b := w.heap.size) (j := 0) (x := .int .i64 3) hC (by simp) (by have := Hg.out; omega) (by simp)
  have hc1 := cell_chg (b := w.heap.size) (j := 1) (x := .int .i64 N) hC (by simp) (by have := Hg.out; omega) (by simp)
  have hc2 := cell_chg (b := w.heap.size) (j := 2) (x := sv) hC (by simp) (by have := Hg.out; omega) (by simp)
  have HQ := Lib.hid hR; have HC := Lib.hid (chg_box (alloc_below w _) hC)
  clear hR hC Hs HR HLB
  go_wp2
  go_ret2
  exact ⟨a, rfl, HQ.out, HC.out⟩
set_option maxRecDepth 100000 in
theorem look_3_short (g : Nat) (vd sv : Value) (A : Option Addr) (c : Nat) (l : List UInt8) (a : Nat) (N : Int) (w : World) (h : Rd w g vd l a) (hB : BytX g w (.slice A l.length c) l) (hl : l.length ≤ 200) (h0 : 0 ≤ N) (hn : (l.length : Int) < a + N) :
    Calls Tryd.prog 31 #[.pointer (some ⟨g, 0, none⟩), .slice A l.length c, .int .i64 (a : Int), .agg #[.int .i64 3, .int .i64 N, sv]] w (LPost w g vd l) := by
  have hal := h.le
  obtain ⟨P, q, hrun, hLB⟩ := left_of hB hal
  obtain ⟨m, hm⟩ : ∃ m, l.length - a = m := ⟨_, rfl⟩
  rw [hm] at hrun hLB
  have hm1 : (l.length : Int) = a + m := by omega
  have hm2 : (m : Int) ≤ 200 := by omega
  have ha2 : (a : Int) ≤ 200 := by omega
  have HR := Lib.hid (h.below (alloc_below w (.cells #[.int .i64 3, .int .i64 N, sv] 67)))
  have HLB := Lib.hid (hLB.below (alloc_below w (.cells #[.int .i64 3, .int .i64 N, sv] 67)))
  have Hg := Lib.hid h.lt
  have Hm := Lib.hid hm1
  clear h hB hLB hm hm1
  have he : advE l a N = 4 := advE_short h0 hn
  have hs := Zeros_err g vd l a N _ HR.out (by rw [he]; decide)
  rw [he] at hs
  have Hs := Lib.hid hs
  clear he hs
  have hn2 : ¬ N ≤ (m : Int) := by have := Hm.out; omega
  have hn3 : (m : Int) < N := by omega
  clear hn
  go_enter Tryd.func31, Tryd.ntmps31
  go_wp2_with fail
  refine (show Calls Tryd.prog 43 _ _ _ from Hs.out).mono ?_
  rintro e w1 ⟨rfl, hR, hC⟩
  have hc0 := cell_chg (b := w.heap.size) (j := 0) (x := .int .i64 3) hC (by simp) (by have := Hg.out; omega) (by simp)
  have hc1 := cell_chg (b := w.heap.size) (j := 1) (x := .int .i64 N) hC (by simp) (by have := Hg.out; omega) (by simp)
  have hc2 := cell_chg (b := w.heap.size) (j := 2) (x := sv) hC (by simp) (by have := Hg.out; omega) (by simp)
  have HQ := Lib.hid hR; have HC := Lib.hid (chg_box (alloc_below w _) hC)
  clear hR hC Hs HR HLB
  go_wp2
  go_ret2
  exact ⟨a, rfl, HQ.out, HC.out⟩
set_option maxRecDepth 100000 in
theorem look_3_format (g : Nat) (vd sv : Value) (A : Option Addr) (c : Nat) (l : List UInt8) (a : Nat) (n : Nat) (w : World) (h : Rd w g vd l a) (hB : BytX g w (.slice A l.length c) l) (hl : l.length ≤ 200) (hn : a + n ≤ l.length) (hz : ¬ AllZero ((l.drop a).take n)) :
    Calls Tryd.prog 31 #[.pointer (some ⟨g, 0, none⟩), .slice A l.length c, .int .i64 (a : Int), .agg #[.int .i64 3, .int .i64 (n : Int), sv]] w (LPost w g vd l) := by
  have hal := h.le
  obtain ⟨P, q, hrun, hLB⟩ := left_of hB hal
  obtain ⟨m, hm⟩ : ∃ m, l.length - a = m := ⟨_, rfl⟩
  rw [hm] at hrun hLB
  have hm1 : (l.length : Int) = a + m := by omega
  have hm2 : (m : Int) ≤ 200 := by omega
  have ha2 : (a : Int) ≤ 200 := by omega
  have HR := Lib.hid (h.below (alloc_below w (.cells #[.int .i64 3, .int .i64 (n : Int), sv] 67)))
  have HLB := Lib.hid (hLB.below (alloc_below w (.cells #[.int .i64 3, .int .i64 (n : Int), sv] 67)))
  have Hg := Lib.hid h.lt
  have Hm := Lib.hid hm1
  clear h hB hLB hm hm1
  have Hs := Lib.hid (Zeros_format g vd l a n _ HR.out hn hz)
  have hn2 : (n : Int) ≤ (m : Int) := by have := Hm.out; omega
  obtain ⟨V, hV, hVB⟩ := head_of (n := n) HLB.out (by omega)
  have HV := Lib.hid hVB
  have HZ := Lib.hid hz
  have hlen2 : ((l.drop a).take n).length ≤ 9223372036854775807 := by rw [List.length_take, List.length_drop]; omega
  have Hl2 := Lib.hid hlen2
  clear hn hVB hz hlen2
  go_enter Tryd.func31, Tryd.ntmps31
  go_wp2_with fail
  refine (show Calls Tryd.prog 43 _ _ _ from Hs.out).mono ?_
  rintro e w1 ⟨rfl, hR, hC⟩
  have hc0 := cell_chg (b := w.heap.size) (j := 0) (x := .int .i64 3) hC (by simp) (by have := Hg.out; omega) (by simp)
  have hc1 := cell_chg (b := w.heap.size) (j := 1) (x := .int .i64 (n : Int)) hC (by simp) (by have := Hg.out; omega) (by simp)
  have hc2 := cell_chg (b := w.heap.size) (j := 2) (x := sv) hC (by simp) (by have := Hg.out; omega) (by simp)
  have HQ := Lib.hid hR; have HC := Lib.hid (chg_box (alloc_below w _) hC)
  have HS := Lib.hid (refZeros_any V _ w1 (HV.out.chg hC).1 Hl2.out)
  clear hR hC Hs HR HLB HV
  go_wp2_with fail
  refine (show Calls Tryd.prog 58 _ _ _ from HS.out).mono ?_
  rintro e w2 ⟨⟨hz, rfl⟩ | ⟨hz, rfl⟩, rfl⟩
  · exact absurd hz HZ.out
  clear hz
  go_wp2
  go_ret2
  exact ⟨a, rfl, HQ.out, HC.out⟩
set_option maxRecDepth 100000 in
theorem look_3_ok (g : Nat) (vd sv : Value) (A : Option Addr) (c : Nat) (l : List UInt8) (a : Nat) (n : Nat) (w : World) (h : Rd w g vd l a) (hB : BytX g w (.slice A l.length c) l) (hl : l.length ≤ 200) (hn : a + n ≤ l.length) (hz : AllZero ((l.drop a).take n)) :
    Calls Tryd.prog 31 #[.pointer (some ⟨g, 0, none⟩), .slice A l.length c, .int .i64 (a : Int), .agg #[.int .i64 3, .int .i64 (n : Int), sv]] w (LPost w g vd l) := by
  have hal := h.le
  obtain ⟨P, q, hrun, hLB⟩ := left_of hB hal
  obtain ⟨m, hm⟩ : ∃ m, l.length - a = m := ⟨_, rfl⟩
  rw [hm] at hrun hLB
  have hm1 : (l.length : Int) = a + m := by omega
  have hm2 : (m : Int) ≤ 200 := by omega
  have ha2 : (a : Int) ≤ 200 := by omega
  have HR := Lib.hid (h.below (alloc_below w (.cells #[.int .i64 3, .int .i64 (n : Int), sv] 67)))
  have HLB := Lib.hid (hLB.below (alloc_below w (.cells #[.int .i64 3, .int .i64 (n : Int), sv] 67)))
  have Hg := Lib.hid h.lt
  have Hm := Lib.hid hm1
  clear h hB hLB hm hm1
  have Hs := Lib.hid (Zeros_ok g vd l a n _ HR.out hn (allZero_rep hz (by rw [List.length_take, List.length_drop]; omega)))
  have hn2 : (n : Int) ≤ (m : Int) := by have := Hm.out; omega
  obtain ⟨V, hV, hVB⟩ := head_of (n := n) HLB.out (by omega)
  have HV := Lib.hid hVB
  have HZ := Lib.hid hz
  have hlen2 : ((l.drop a).take n).length ≤ 9223372036854775807 := by rw [List.length_take, List.length_drop]; omega
  have Hl2 := Lib.hid hlen2
  clear hn hVB hz hlen2
  go_enter Tryd.func31, Tryd.ntmps31
  go_wp2_with fail
  refine (show Calls Tryd.prog 43 _ _ _ from Hs.out).mono ?_
  rintro e w1 ⟨rfl, hR, hC⟩
  have hc0 := cell_chg (b := w.heap.size) (j := 0) (x := .int .i64 3) hC (by simp) (by have := Hg.out; omega) (by simp)
  have hc1 := cell_chg (b := w.heap.size) (j := 1) (x := .int .i64 (n : Int)) hC (by simp) (by have := Hg.out; omega) (by simp)
  have hc2 := cell_chg (b := w.heap.size) (j := 2) (x := sv) hC (by simp) (by have := Hg.out; omega) (by simp)
  have HQ := Lib.hid hR; have HC := Lib.hid (chg_box (alloc_below w _) hC)
  have HS := Lib.hid (refZeros_any V _ w1 (HV.out.chg hC).1 Hl2.out)
  clear hR hC Hs HR HLB HV
  go_wp2_with fail
  refine (show Calls Tryd.prog 58 _ _ _ from HS.out).mono ?_
  rintro e w2 ⟨⟨hz, rfl⟩ | ⟨hz, rfl⟩, rfl⟩
  rotate_left
  · exact absurd HZ.out hz
  clear hz
  go_wp2
  go_ret2
  exact ⟨a + n, rfl, HQ.out, HC.out⟩
end Go.Proofs.YtmolpnhgmdpdmaaDoor
