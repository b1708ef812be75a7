/- The contract of works: the examples of the chapter. No condition. -/
import Derived.Test.YtmnlkejhhdbhlaaK
namespace Go.Proofs.Ytmnlkejhhdbhlaa
open Go.RowKit
set_option linter.unusedVariables false
set_option maxHeartbeats 8000000
set_option maxRecDepth 100000
def m0 : Mm := Mm.new 4096
def m1 : Mm := m0.ch 4094 2 [1, 2]
def m2 : Mm := m1.ch 10 3 (List.replicate (3 : Int).toNat 7)
def m3 : Mm := m2.ch 4096 0 []
def m4 : Mm := { m3 with L := [] }
def m5 : Mm := m4.ch 0 1 [5]
theorem x1 : m0.chk 4094 2 = 0 := by kernel_rfl
theorem x2 : m1.chk 4095 2 = 3 := by kernel_rfl
theorem y2 : m1.ch 4095 2 [1, 2] = m1 := by unfold Mm.ch; rw [if_neg (by rw [x2]; decide)]
theorem x3 : m1.chk 4093 3 = 0 := by kernel_rfl
theorem y3 : m1.rd 4093 3 = [0, 1, 2] := by kernel_rfl
theorem x4 : m1.chk 10 3 = 0 := by kernel_rfl
theorem x5 : m2.chk 9 5 = 0 := by kernel_rfl
theorem y5 : m2.rd 9 5 = [0, 7, 7, 7, 0] := by kernel_rfl
theorem x6 : m2.chk 4096 0 = 0 := by kernel_rfl
theorem x7 : m3.chk 0 (-1) = 2 := by kernel_rfl
theorem y7 : m3.rd 0 (-1) = [] := by unfold Mm.rd; rw [if_neg (by rw [x7]; decide)]
theorem x8 : m3.L = [(4094, 2), (10, 3)] := by kernel_rfl
theorem x9 : m4.chk 0 1 = 0 := by kernel_rfl
theorem x10 : m5.L = [(0, 1)] := by kernel_rfl
theorem l0 : m0.L.length = 0 := rfl
theorem l1 : m1.L.length = 1 := by kernel_rfl
theorem l2 : m2.L.length = 2 := by kernel_rfl
theorem g0 : Gm m0 := Gm.new (by decide) (by decide)
theorem g1 : Gm m1 := g0.ch (by rw [l0]; decide) (fun _ => rfl)
theorem g2 : Gm m2 := g1.ch (by rw [l1]; decide) (fun _ => by simp)
theorem g3 : Gm m3 := g2.ch (by rw [l2]; decide) (fun _ => rfl)
theorem g4 : Gm m4 := g3.clear
theorem g5 : Gm m5 := g4.ch (by show (0 : Nat) < 1000000; decide) (fun _ => rfl)
section
variable {w W : World} {b d cap : Nat}
theorem k0 (h : Kp w b d cap m0 W) : Calls Try.prog 22 #[.pointer (some ⟨b, 0, none⟩)] W fun e w' => e = .returned (.int .i64 4096) ∧ W = w' := by
  have h1 := Size_any h.1
  rw [show m0.B.length = 4096 by simp [m0, Mm.new]] at h1
  exact h1
theorem k1 (h : Kp w b d cap m0 W) : Calls Try.prog 16 #[.pointer (some ⟨b, 0, none⟩), .int .u64 4094, .slice (some ⟨W.heap.size, 0, none⟩) 2 2] (W.alloc (.cells #[.int .u8 1, .int .u8 2] 5)) fun e w' => e = .returned (.int .i64 0) ∧ Kp w b d cap m1 w' :=
  kp_lit h g0 4094 [1, 2] 0 2 rfl (by decide) (by decide) x1 rfl
theorem k2 (h : Kp w b d cap m1 W) : Calls Try.prog 16 #[.pointer (some ⟨b, 0, none⟩), .int .u64 4095, .slice (some ⟨W.heap.size, 0, none⟩) 2 2] (W.alloc (.cells #[.int .u8 1, .int .u8 2] 5)) fun e w' => e = .returned (.int .i64 3) ∧ Kp w b d cap m1 w' :=
  kp_lit h g1 4095 [1, 2] 3 2 rfl (by decide) (by decide) x2 y2
theorem k3 (h : Kp w b d cap m1 W) : Calls Try.prog 24 #[.pointer (some ⟨b, 0, none⟩), .int .u64 4093, .int .i64 3, .string ⟨#[0, 1, 2]⟩, .int .i64 0] W fun e w' => e = .returned (.bool true) ∧ Kp w b d cap m1 w' :=
  kp_reads h g1 4093 3 [0, 1, 2] 0 (by decide) (by decide) x3 y3
theorem k4 (h : Kp w b d cap m1 W) : Calls Try.prog 25 #[.pointer (some ⟨b, 0, none⟩), .int .u64 10, .int .i64 3, .int .u8 7] W fun e w' => e = .returned (.int .i64 0) ∧ Kp w b d cap m2 w' :=
  kp_fill h g1 10 3 7 0 (by decide) (by decide) x4 rfl
theorem k5 (h : Kp w b d cap m2 W) : Calls Try.prog 24 #[.pointer (some ⟨b, 0, none⟩), .int .u64 9, .int .i64 5, .string ⟨#[0, 7, 7, 7, 0]⟩, .int .i64 0] W fun e w' => e = .returned (.bool true) ∧ Kp w b d cap m2 w' :=
  kp_reads h g2 9 5 [0, 7, 7, 7, 0] 0 (by decide) (by decide) x5 y5
theorem k6 (h : Kp w b d cap m2 W) : Calls Try.prog 16 #[.pointer (some ⟨b, 0, none⟩), .int .u64 4096, .slice none 0 0] W fun e w' => e = .returned (.int .i64 0) ∧ Kp w b d cap m3 w' :=
  kp_write h g2 4096 _ [] 0 0 rfl (by decide) (Byt.nil W) (fun h0 => absurd h0 (by simp)) (by decide) x6 rfl
theorem k7 (h : Kp w b d cap m3 W) : Calls Try.prog 24 #[.pointer (some ⟨b, 0, none⟩), .int .u64 0, .int .i64 (-1), .string ⟨#[]⟩, .int .i64 2] W fun e w' => e = .returned (.bool true) ∧ Kp w b d cap m3 w' :=
  kp_reads h g3 0 (-1) [] 2 (by decide) (by decide) x7 y7
theorem spn2 (W : World) (a1 n1 a2 n2 : Nat) : Spn (W.alloc (.cells #[.int .u64 (a1 : Int), .int .i64 (n1 : Int), .bool false, .int .u64 (a2 : Int), .int .i64 (n2 : Int), .bool false] 47)) (.slice (some ⟨W.heap.size, 0, none⟩) 2 2) [(a1, n1), (a2, n2)] := by
  have e := fun k => cell_of_row (W.alloc (.cells #[.int .u64 (a1 : Int), .int .i64 (n1 : Int), .bool false, .int .u64 (a2 : Int), .int .i64 (n2 : Int), .bool false] 47)) W.heap.size k _ 47 (0, 0) (heap_alloc_new W _)
  refine ⟨_, _, rfl, Nat.le_refl _, fun _ => ⟨W.heap.size, 0, rfl, by simp, fun j hj => ?_⟩⟩
  have : j = 0 ∨ j = 1 := by simp at hj; omega
  rcases this with rfl | rfl
  · exact ⟨e 0, e 1, e 2⟩
  · exact ⟨e 3, e 4, e 5⟩
theorem spn1 (W : World) (a1 n1 : Nat) : Spn (W.alloc (.cells #[.int .u64 (a1 : Int), .int .i64 (n1 : Int), .bool false] 47)) (.slice (some ⟨W.heap.size, 0, none⟩) 1 1) [(a1, n1)] := by
  have e := fun k => cell_of_row (W.alloc (.cells #[.int .u64 (a1 : Int), .int .i64 (n1 : Int), .bool false] 47)) W.heap.size k _ 47 (0, 0) (heap_alloc_new W _)
  refine ⟨_, _, rfl, Nat.le_refl _, fun _ => ⟨W.heap.size, 0, rfl, by simp, fun j hj => ?_⟩⟩
  obtain rfl : j = 0 := by simp at hj; omega
  exact ⟨e 0, e 1, e 2⟩
theorem k8 (h : Kp w b d cap m3 W) : Calls Try.prog 18 #[.pointer (some ⟨b, 0, none⟩), .int .i64 0, .slice (some ⟨W.heap.size, 0, none⟩) 2 2, .int .i64 9] (W.alloc (.cells #[.int .u64 4094, .int .i64 2, .bool false, .int .u64 10, .int .i64 3, .bool false] 47)) fun e w' => e = .returned (.bool true) ∧ Kp w b d cap m3 w' :=
  kp_logs (h.later (below_alloc W _)) g3 _ 9 0 (by rw [x8]; rfl) (by rw [x8]; exact spn2 W 4094 2 10 3)
theorem k9 (h : Kp w b d cap m3 W) : Calls Try.prog 19 #[.pointer (some ⟨b, 0, none⟩)] W fun e w' => e = .returned (.int .i64 0) ∧ Kp w b d cap m4 w' := kp_clear h g3
theorem k10 (h : Kp w b d cap m4 W) : Calls Try.prog 16 #[.pointer (some ⟨b, 0, none⟩), .int .u64 0, .slice (some ⟨W.heap.size, 0, none⟩) 1 1] (W.alloc (.cells #[.int .u8 5] 5)) fun e w' => e = .returned (.int .i64 0) ∧ Kp w b d cap m5 w' :=
  kp_lit h g4 0 [5] 0 1 rfl (by decide) (by decide) x9 rfl
theorem k11 (h : Kp w b d cap m5 W) : Calls Try.prog 18 #[.pointer (some ⟨b, 0, none⟩), .int .i64 0, .slice (some ⟨W.heap.size, 0, none⟩) 1 1, .int .i64 9] (W.alloc (.cells #[.int .u64 0, .int .i64 1, .bool false] 47)) fun e w' => e = .returned (.bool true) ∧ Kp w b d cap m5 w' :=
  kp_logs (h.later (below_alloc W _)) g5 _ 9 0 (by rw [x10]; rfl) (by rw [x10]; exact spn1 W 0 1)
end
theorem new_no (p : Int) (h : p = 0 ∨ p = 1025) (w : World) : Calls Try.prog 11 #[.int .i64 p] w fun e w' => e = .returned (.tuple #[.pointer none, .int .i64 2]) ∧ Below w.heap.size w w' := New_bad p (by omega) w
theorem works_any (w : World) : Calls Try.prog 10 #[] w (OkB w) := by
  have N0 := Lib.hid (new_no 0 (.inl rfl) w)
  have N1 := Lib.hid (new_no 1025 (.inr rfl))
  have N2 := Lib.hid kp_new
  go_enter Try.func10, Try.ntmps10
  go_wp2_with (first
    | ((go_at_call 11; with_reducible refine N0.out.mono ?_); rintro e w1 ⟨rfl, hb⟩; have B1 := Lib.hid hb; clear hb N0)
    | ((go_at_call 11; with_reducible refine (N1.out _).mono ?_); rintro e w2 ⟨rfl, hb⟩; have B2 := Lib.hid (B1.out.trans (hb.mono B1.out.size)); clear hb N1)
    | ((go_at_call 11; with_reducible refine (N2.out _).mono ?_); rintro e w3 ⟨b, d, rfl, hk⟩; have K0 := Lib.hid (show Kp w2 b d 4096 m0 w3 from hk); clear hk N2)
    | ((go_at_call 13; with_reducible refine (num_any _ _).mono ?_); rintro e w' ⟨rfl, rfl⟩)
    | ((go_at_call 22; with_reducible refine (k0 K0.out).mono ?_); rintro e w' ⟨rfl, rfl⟩)
    | ((go_at_call 16; with_reducible refine (k1 K0.out).mono ?_); rintro e w4 ⟨rfl, hk⟩; have K1 := Lib.hid hk; clear hk)
    | ((go_at_call 16; with_reducible refine (k2 K1.out).mono ?_); rintro e w5 ⟨rfl, hk⟩; have K2 := Lib.hid hk; clear hk)
    | ((go_at_call 24; with_reducible refine (k3 K2.out).mono ?_); rintro e w6 ⟨rfl, hk⟩; have K3 := Lib.hid hk; clear hk)
    | ((go_at_call 25; with_reducible refine (k4 K3.out).mono ?_); rintro e w7 ⟨rfl, hk⟩; have K4 := Lib.hid hk; clear hk)
    | ((go_at_call 24; with_reducible refine (k5 K4.out).mono ?_); rintro e w8 ⟨rfl, hk⟩; have K5 := Lib.hid hk; clear hk)
    | ((go_at_call 16; with_reducible refine (k6 K5.out).mono ?_); rintro e w9 ⟨rfl, hk⟩; have K6 := Lib.hid hk; clear hk)
    | ((go_at_call 24; with_reducible refine (k7 K6.out).mono ?_); rintro e w10 ⟨rfl, hk⟩; have K7 := Lib.hid hk; clear hk)
    | ((go_at_call 18; with_reducible refine (k8 K7.out).mono ?_); rintro e w11 ⟨rfl, hk⟩; have K8 := Lib.hid hk; clear hk)
    | ((go_at_call 19; with_reducible refine (k9 K8.out).mono ?_); rintro e w12 ⟨rfl, hk⟩; have K9 := Lib.hid hk; clear hk)
    | ((go_at_call 16; with_reducible refine (k10 K9.out).mono ?_); rintro e w13 ⟨rfl, hk⟩; have K10 := Lib.hid hk; clear hk)
    | ((go_at_call 18; with_reducible refine (k11 K10.out).mono ?_); rintro e w14 ⟨rfl, hk⟩; have K11 := Lib.hid hk; clear hk))
  go_ret
  exact ⟨rfl, B2.out.trans (K11.out.bel.mono B2.out.size)⟩
end Go.Proofs.Ytmnlkejhhdbhlaa
