/- The law's own function look: no kind. Conditions stand in each theorem. -/
import Derived.Test.YtmolpnhgmdpdmaaDoorRm
import Derived.IntWalk
namespace Go.Proofs.YtmolpnhgmdpdmaaDoor
open Go.RowKit
set_option linter.unusedVariables false
set_option maxHeartbeats 1000000
set_option maxRecDepth 100000 in
theorem look_none (g : Nat) (vd sv : Value) (A : Option Addr) (c : Nat) (l : List UInt8) (a : Nat) (K N : Int) (w : World) (h : Rd w g vd l a) (hB : BytX g w (.slice A l.length c) l) (hl : l.length ≤ 200) (k0 : ¬ K = 0) (k1 : ¬ K = 1) (k2 : ¬ K = 2) (k3 : ¬ K = 3) (k4 : ¬ K = 4) :
    Calls Tryd.prog 31 #[.pointer (some ⟨g, 0, none⟩), .slice A l.length c, .int .i64 (a : Int), .agg #[.int .i64 K, .int .i64 N, sv]] w (LPost w g vd l) := by
  have hal := h.le
  obtain ⟨P, q, hrun, hLB⟩ := left_of hB hal
  obtain ⟨m, hm⟩ : ∃ m, l.length - a = m := ⟨_, rfl⟩
  rw [hm] at hrun hLB
  have hm1 : (l.length : Int) = a + m := by omega
  have hm2 : (m : Int) ≤ 200 := by omega
  have ha2 : (a : Int) ≤ 200 := by omega
  have HR := Lib.hid (h.below (alloc_below w (.cells #[.int .i64 K, .int .i64 N, sv] 67)))
  have HLB := Lib.hid (hLB.below (alloc_below w (.cells #[.int .i64 K, .int .i64 N, sv] 67)))
  have Hg := Lib.hid h.lt
  have Hm := Lib.hid hm1
  clear h hB hLB hm hm1
  have HR0 := Lib.hid (HR.out)
  have HC := Lib.hid (Chg.of_below (S := (· = g)) (alloc_below w (.cells #[.int .i64 K, .int .i64 N, sv] 67)))
  clear HR HLB
  by_cases hn : N < 0
  · go_enter Tryd.func31, Tryd.ntmps31
    go_wp2
    go_ret2
    exact ⟨a, rfl, HR0.out, HC.out⟩
  · by_cases hn2 : N ≤ (m : Int)
    · go_enter Tryd.func31, Tryd.ntmps31
      go_wp2
      go_ret2
      exact ⟨a, rfl, HR0.out, HC.out⟩
    · go_enter Tryd.func31, Tryd.ntmps31
      go_wp2
      go_ret2
      exact ⟨a, rfl, HR0.out, HC.out⟩
end Go.Proofs.YtmolpnhgmdpdmaaDoor
