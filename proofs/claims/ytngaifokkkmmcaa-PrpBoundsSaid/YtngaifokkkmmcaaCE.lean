/- The contract of the law's works. Conditions stand in each theorem. -/
import Derived.Test.YtngaifokkkmmcaaCD
namespace Go.Proofs.Ytngaifokkkmmcaa
open Go.RowKit Go.Shelf
set_option linter.unusedVariables false
set_option maxHeartbeats 4000000
set_option maxRecDepth 100000
theorem works_any (w : World) : Calls Try.prog 9 #[] w (OkB w) := by
  have HN := Lib.hid (show Calls Try.prog 19 #[.int .i64 4] w fun e w' => ∃ b d cap, e = .returned (.tuple #[.pointer (some ⟨b, 0, none⟩), .int .i64 0]) ∧ Kp w b d cap m4 w' from kp_new w 4 16384 (by decide) (by decide) (by decide))
  have HM := Lib.hid (fun (W : World) (q : Int) => num_any q W)
  have C1 := Lib.hid (fun W => show Calls Try.prog 21 #[.int .u64 0, .int .i64 4096] W fun e w' => e = .returned (.int .i64 1) ∧ W = w' from Count_any 0 4096 W (by decide))
  have C2 := Lib.hid (fun W => show Calls Try.prog 21 #[.int .u64 4, .int .i64 4096] W fun e w' => e = .returned (.int .i64 2) ∧ W = w' from Count_any 4 4096 W (by decide))
  have C3 := Lib.hid (fun W => show Calls Try.prog 21 #[.int .u64 4092, .int .i64 4] W fun e w' => e = .returned (.int .i64 1) ∧ W = w' from Count_any 4092 4 W (by decide))
  have C4 := Lib.hid (fun W => show Calls Try.prog 21 #[.int .u64 0, .int .i64 0] W fun e w' => e = .returned (.int .i64 0) ∧ W = w' from Count_any 0 0 W (by decide))
  have L1 := Lib.hid (fun W => show Calls Try.prog 24 #[.int .u64 12280, .int .i64 4] W fun e w' => e = .returned (.int .i64 2) ∧ W = w' from Lists_any 12280 4 W (by decide))
  go_enter Try.func9, Try.ntmps9
  go_wp2_with fail
  with_reducible refine HN.out.mono ?_
  rintro e w1 ⟨b, d, cap, rfl, hk⟩
  have HK := Lib.hid hk
  have S1 := Lib.hid (fun W (h : Kp w b d cap m4 W) => show Calls Try.prog 18 #[.pointer (some ⟨b, 0, none⟩), .int .u64 100, .int .u64 0, .int .i64 50, .int .i64 0, .slice (some ⟨W.heap.size, 0, none⟩) 1 1] (W.alloc (.cells #[.int .u64 100, .int .i64 50, .bool false] 42)) fun e w' => e = .returned (.bool true) ∧ Below W.heap.size W w' from kp_spans h m4_gm 100 0 50 _ [(100, 50)] 0 (by decide) (by decide) sp1 rfl rfl (by simp) (by simp))
  have S2 := Lib.hid (fun W (h : Kp w b d cap m4 W) => show Calls Try.prog 18 #[.pointer (some ⟨b, 0, none⟩), .int .u64 4000, .int .u64 8192, .int .i64 200, .int .i64 0, .slice (some ⟨W.heap.size, 0, none⟩) 2 2] (W.alloc (.cells #[.int .u64 4000, .int .i64 96, .bool false, .int .u64 8192, .int .i64 104, .bool false] 42)) fun e w' => e = .returned (.bool true) ∧ Below W.heap.size W w' from kp_spans h m4_gm 4000 8192 200 _ [(4000, 96), (8192, 104)] 0 (by decide) (by decide) sp2 rfl rfl (by simp) (by simp))
  have S3 := Lib.hid (fun W (h : Kp w b d cap m4 W) => show Calls Try.prog 18 #[.pointer (some ⟨b, 0, none⟩), .int .u64 102, .int .u64 0, .int .i64 4, .int .i64 150, .slice none 0 0] W fun e w' => e = .returned (.bool true) ∧ Below W.heap.size W w' from kp_spans0 h m4_gm 102 0 4 _ 150 (by decide) (by decide) sp3 rfl rfl)
  have S4 := Lib.hid (fun W (h : Kp w b d cap m4 W) => show Calls Try.prog 18 #[.pointer (some ⟨b, 0, none⟩), .int .u64 4000, .int .u64 8200, .int .i64 200, .int .i64 150, .slice none 0 0] W fun e w' => e = .returned (.bool true) ∧ Below W.heap.size W w' from kp_spans0 h m4_gm 4000 8200 200 _ 150 (by decide) (by decide) sp4 rfl rfl)
  have S5 := Lib.hid (fun W (h : Kp w b d cap m4 W) => show Calls Try.prog 18 #[.pointer (some ⟨b, 0, none⟩), .int .u64 16380, .int .u64 4, .int .i64 5, .int .i64 150, .slice none 0 0] W fun e w' => e = .returned (.bool true) ∧ Below W.heap.size W w' from kp_spans0 h m4_gm 16380 4 5 _ 150 (by decide) (by decide) sp5 rfl rfl)
  have S6 := Lib.hid (fun W (h : Kp w b d cap m5 W) => show Calls Try.prog 18 #[.pointer (some ⟨b, 0, none⟩), .int .u64 0, .int .u64 12272, .int .i64 9000, .int .i64 0, .slice (some ⟨W.heap.size, 0, none⟩) 3 3] (W.alloc (.cells #[.int .u64 0, .int .i64 4096, .bool false, .int .u64 4096, .int .i64 4096, .bool false, .int .u64 8192, .int .i64 808, .bool false] 42)) fun e w' => e = .returned (.bool true) ∧ Below W.heap.size W w' from kp_spans h m5_gm 0 12272 9000 _ [(0, 4096), (4096, 4096), (8192, 808)] 0 (by decide) (by decide) sp6 rfl rfl (by simp) (by simp))
  have B1 := Lib.hid (fun W (h : Kp w b d cap m4 W) => kp_build1 h)
  have B2 := Lib.hid (fun W (h : Kp w b d cap m5 W) => kp_build2 h m5_gm)
  clear hk
  go_wp2_with (first
    | ((go_at_call 12; with_reducible refine (HM.out _ _).mono ?_); rintro e w' ⟨rfl, rfl⟩)
    | ((go_at_call 21; with_reducible refine (C1.out _).mono ?_); rintro e w' ⟨rfl, rfl⟩)
    | ((go_at_call 21; with_reducible refine (C2.out _).mono ?_); rintro e w' ⟨rfl, rfl⟩)
    | ((go_at_call 21; with_reducible refine (C3.out _).mono ?_); rintro e w' ⟨rfl, rfl⟩)
    | ((go_at_call 21; with_reducible refine (C4.out _).mono ?_); rintro e w' ⟨rfl, rfl⟩)
    | ((go_at_call 24; with_reducible refine (L1.out _).mono ?_); rintro e w' ⟨rfl, rfl⟩)
    | ((go_at_call 18; with_reducible refine (S1.out _ HK.out).mono ?_); rintro e w2 ⟨rfl, hb⟩; have HK := Lib.hid (HK.out.later hb); clear hb)
    | ((go_at_call 18; with_reducible refine (S2.out _ HK.out).mono ?_); rintro e w2 ⟨rfl, hb⟩; have HK := Lib.hid (HK.out.later hb); clear hb)
    | ((go_at_call 18; with_reducible refine (S3.out _ HK.out).mono ?_); rintro e w2 ⟨rfl, hb⟩; have HK := Lib.hid (HK.out.later hb); clear hb)
    | ((go_at_call 18; with_reducible refine (S4.out _ HK.out).mono ?_); rintro e w2 ⟨rfl, hb⟩; have HK := Lib.hid (HK.out.later hb); clear hb)
    | ((go_at_call 18; with_reducible refine (S5.out _ HK.out).mono ?_); rintro e w2 ⟨rfl, hb⟩; have HK := Lib.hid (HK.out.later hb); clear hb)
    | ((go_at_call 18; with_reducible refine (S6.out _ HK.out).mono ?_); rintro e w2 ⟨rfl, hb⟩; have HK := Lib.hid (HK.out.later hb); clear hb)
    | ((go_at_call 15; with_reducible refine (B1.out _ HK.out).mono ?_); rintro e w2 ⟨rfl, hk⟩; have HK := Lib.hid hk; clear hk)
    | ((go_at_call 15; with_reducible refine (B2.out _ HK.out).mono ?_); rintro e w2 ⟨rfl, hk⟩; have HK := Lib.hid hk; clear hk))
  go_ret
  exact ⟨rfl, HK.out.2⟩
end Go.Proofs.Ytngaifokkkmmcaa
