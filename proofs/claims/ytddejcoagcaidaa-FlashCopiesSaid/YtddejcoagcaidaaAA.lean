/- The contract of the law's works: the examples of the chapter. No condition. -/
import Derived.Test.YtddejcoagcaidaaZ
import Derived.Lib.SlBytesConst
namespace Go.Proofs.Ytddejcoagcaidaa
open Go.RowKit
set_option linter.unusedVariables false
set_option maxHeartbeats 8000000
set_option maxRecDepth 100000
def FillPost (W : World) (l : List UInt8) (e : Ending) (W' : World) : Prop := ∃ A c, e = .returned (.slice A 64 c) ∧ BytT 0 W' (.slice A 64 c) l ∧ Below W.heap.size W W'
theorem fill7 (W : World) : Calls Try.prog 32 #[.int .i64 64, .int .u8 7] W (FillPost W s64) :=
  (show Calls Try.prog 32 #[.int .i64 64, .int .u8 7] W (NewBytes W (List.replicate 64 7)) from filled_any 64 7 W (by decide)).mono fun e W' ⟨⟨A, c, h1, h2⟩, hb⟩ => ⟨A, c, h1, BytT.of_own h2 (Nat.zero_le _), hb⟩
theorem fillF (W : World) : Calls Try.prog 32 #[.int .i64 64, .int .u8 255] W (FillPost W f64) :=
  (show Calls Try.prog 32 #[.int .i64 64, .int .u8 255] W (NewBytes W (List.replicate 64 255)) from filled_any 64 255 W (by decide)).mono fun e W' ⟨⟨A, c, h1, h2⟩, hb⟩ => ⟨A, c, h1, BytT.of_own h2 (Nat.zero_le _), hb⟩
section
variable {w W : World} {b g m : Nat} {s : Dev} {v : Value}
theorem Kw.prA (h : Kw w b g m s v W) (q p k : Int) {s' : Dev} (e1 : s.prE q p [97, 98] s64 = k) (e2 : s.prS q p [97, 98] s64 = s') (hn : s'.n ≤ 1000) :
    Calls Try.prog 23 #[.pointer (some ⟨b, 0, none⟩), .int .i64 q, .int .i64 p, .slice (some ⟨W.heap.size, 0, none⟩) 2 2, v] (W.alloc (.cells #[.int .u8 97, .int .u8 98] 5 (2, 3))) fun e W' => e = .returned (.int .i64 k) ∧ Kw w b g m s' v W' := h.pr2 97 98 (2, 3) q p k e1 e2 hn
theorem Kw.prC (h : Kw w b g m s v W) (q p k : Int) {s' : Dev} (e1 : s.prE q p [99, 100] s64 = k) (e2 : s.prS q p [99, 100] s64 = s') (hn : s'.n ≤ 1000) :
    Calls Try.prog 23 #[.pointer (some ⟨b, 0, none⟩), .int .i64 q, .int .i64 p, .slice (some ⟨W.heap.size, 0, none⟩) 2 2, v] (W.alloc (.cells #[.int .u8 99, .int .u8 100] 5 (2, 3))) fun e W' => e = .returned (.int .i64 k) ∧ Kw w b g m s' v W' := h.pr2 99 100 (2, 3) q p k e1 e2 hn
theorem same_ab {v1 : Value} (h1 : BytT 0 W v1 [97, 98]) : Calls Try.prog 31 #[v1, .slice (some ⟨W.heap.size, 0, none⟩) 2 2] (W.alloc (.cells #[.int .u8 97, .int .u8 98] 5 (2, 3))) fun e W' => e = .returned (.bool true) ∧ W.alloc (.cells #[.int .u8 97, .int .u8 98] 5 (2, 3)) = W' := same_two (2, 3) h1
theorem same_cf {v1 : Value} (h1 : BytT 0 W v1 [99, 255]) : Calls Try.prog 31 #[v1, .slice (some ⟨W.heap.size, 0, none⟩) 2 2] (W.alloc (.cells #[.int .u8 99, .int .u8 255] 5)) fun e W' => e = .returned (.bool true) ∧ W.alloc (.cells #[.int .u8 99, .int .u8 255] 5) = W' := same_two (0, 0) h1
end
theorem works_any (w : World) : Calls Try.prog 10 #[] w fun e w' => e = .returned (.bool true) ∧ Below w.heap.size w w' := by
  have N0 := Lib.hid (new_works w)
  have F7 := Lib.hid fill7
  have FF := Lib.hid fillF
  have kc := fun (w : World) (C : Array Value) (n c : Nat) => Lib.run_convert_bytes_const (P := Try.prog) w 41 5 C n c Try.underlying41 Try.underlying5
  go_enter Try.func10, Try.ntmps10
  go_wp2_with (first
    | ((go_at_call 11; with_reducible refine N0.out.mono ?_); rintro e w1 ⟨b, g, m, rfl, HD0, HB0⟩)
    | ((go_at_call 32; with_reducible refine (F7.out _).mono ?_); rintro e w2 ⟨A7, c7, rfl, ho, hb⟩; have K0 : Hid (Kw w b g m kd0 (.slice A7 64 c7) w2) := Lib.hid ⟨⟨_, HD0.out.below hb⟩, gd0, by decide, ho, HB0.out.trans (hb.mono HB0.out.size)⟩; clear ho hb HD0 HB0 F7)
    | ((go_at_call 13; with_reducible refine (num_any _ _).mono ?_); rintro e w' ⟨rfl, rfl⟩)
    | ((go_at_call 23; with_reducible refine (K0.out.prA 0 0 0 x1 y1 n1).mono ?_); rintro e w3 ⟨rfl, hk⟩; have K1 := Lib.hid (show Kw w b g m kd1 _ w3 from hk); clear hk K0)
    | ((go_at_call 23; with_reducible refine (K1.out.prC 0 0 51 x2 y2 n1).mono ?_); rintro e w4 ⟨rfl, hk⟩; have K2 := Lib.hid hk; clear hk K1)
    | ((go_at_call 23; with_reducible refine (K2.out.prC 1 1 51 x3 y3 n1).mono ?_); rintro e w5 ⟨rfl, hk⟩; have K3 := Lib.hid hk; clear hk K2)
    | ((go_at_call 18; with_reducible refine (K3.out.rd 0 0 0 x4 x5 x6).mono ?_); rintro e w6 ⟨B1, n1', c1', B2, n2', c2', rfl, hx, hy, hk, hb⟩; have X1 := Lib.hid hx; have Y1 := Lib.hid hy; have K4 := Lib.hid hk; clear hk K3 hx hy hb)
    | ((go_at_call 18; with_reducible refine (K4.out.rd 0 1 52 x7 rfl rfl).mono ?_); rintro e w7 ⟨B3, n3', c3', B4, n4', c4', rfl, _, _, hk, hb⟩; have X2 := Lib.hid (X1.out.below hb); have Y2 := Lib.hid (Y1.out.below hb); have K5 := Lib.hid hk; clear hk K4 hb X1 Y1)
    | ((go_at_call 31; with_reducible refine (same_ab X2.out).mono ?_); rintro e w' ⟨rfl, rfl⟩; have Y3 := Lib.hid (Y2.out.below (below_alloc w7 (.cells #[.int .u8 97, .int .u8 98] 5 (2, 3)))); have K6 := Lib.hid (K5.out.later (below_alloc w7 (.cells #[.int .u8 97, .int .u8 98] 5 (2, 3)))); clear X2 Y2 K5)
    | ((go_at_call 31; with_reducible refine (same_of Y3.out K6.out.byt).mono ?_); rintro e w' ⟨rfl, rfl⟩; clear Y3)
    | ((go_at_call 24; with_reducible refine (K6.out.cu 1 1 0 x8 y8 n2).mono ?_); rintro e w8 ⟨rfl, hk⟩; have K7 := Lib.hid (show Kw w b g m kd2 _ w8 from hk); clear hk K6)
    | ((go_at_call 23; with_reducible refine (K7.out.prC 0 1 50 x9 y9 n3).mono ?_); rintro e w9 ⟨rfl, hk⟩; have K8 := Lib.hid (show Kw w b g m kd3 _ w9 from hk); clear hk K7)
    | ((go_at_call 18; with_reducible refine (K8.out.rd 0 0 50 x10 rfl rfl).mono ?_); rintro e w10 ⟨B5, n5', c5', B6, n6', c6', rfl, _, _, hk, hb⟩; have K9 := Lib.hid hk; clear hk K8 hb)
    | ((go_at_call 21; with_reducible refine (K9.out.rs).mono ?_); rintro e w11 ⟨rfl, hk⟩; have K10 := Lib.hid (show Kw w b g m kd4 _ w11 from hk); clear hk K9)
    | ((go_at_call 18; with_reducible refine (K10.out.rd 0 1 0 x11 x12 x13).mono ?_); rintro e w12 ⟨B7, n7', c7', B8, n8', c8', rfl, hx, hy, hk, hb⟩; have X4 := Lib.hid hx; have Y4 := Lib.hid hy; have K11 := Lib.hid hk; clear hk K10 hx hy hb)
    | ((go_at_call 31; with_reducible refine (same_cf X4.out).mono ?_); rintro e w' ⟨rfl, rfl⟩; have Y5 := Lib.hid (Y4.out.below (below_alloc w12 (.cells #[.int .u8 99, .int .u8 255] 5))); have K12 := Lib.hid (K11.out.later (below_alloc w12 (.cells #[.int .u8 99, .int .u8 255] 5))); clear X4 Y4 K11)
    | ((go_at_call 32; with_reducible refine (FF.out _).mono ?_); rintro e w13 ⟨A8, c8, rfl, ho, hb⟩; have Y6 := Lib.hid (Y5.out.below hb); have Z6 := Lib.hid ho; have K13 := Lib.hid (K12.out.later hb); clear ho hb Y5 K12 FF)
    | ((go_at_call 31; with_reducible refine (same_of Y6.out Z6.out).mono ?_); rintro e w' ⟨rfl, rfl⟩; clear Y6 Z6)
    | ((go_at_call 30; with_reducible refine (K13.out.st 0 1 3 x14).mono ?_); rintro e w' ⟨rfl, rfl⟩)
    | ((go_at_call 22; with_reducible refine (K13.out.er 0 55 x15 y15 n5).mono ?_); rintro e w14 ⟨rfl, hk⟩; have K14 := Lib.hid (show Kw w b g m kd5 _ w14 from hk); clear hk K13)
    | ((go_at_call 30; with_reducible refine (K14.out.st 0 0 5 x16).mono ?_); rintro e w' ⟨rfl, rfl⟩)
    | ((go_at_call 18; with_reducible refine (K14.out.rd 0 0 53 x17 rfl rfl).mono ?_); rintro e w15 ⟨B9, n9', c9', B10, n10', c10', rfl, _, _, hk, hb⟩; have K15 := Lib.hid hk; clear hk K14 hb)
    | ((go_at_call 22; with_reducible refine (K15.out.er 0 0 x18 y18 n6).mono ?_); rintro e w16 ⟨rfl, hk⟩; have K16 := Lib.hid (show Kw w b g m kd6 _ w16 from hk); clear hk K15)
    | ((go_at_call 28; with_reducible refine (K16.out.nx 0 0 x19).mono ?_); rintro e w' ⟨rfl, rfl⟩)
    | ((go_at_call 22; with_reducible refine (K16.out.er 0 56 x20 y20 n6).mono ?_); rintro e w17 ⟨rfl, hk⟩; have K17 := Lib.hid hk; clear hk K16)
    | ((go_at_call 27; with_reducible refine (K17.out.op 4 x21).mono ?_); rintro e w' ⟨rfl, rfl⟩))
  go_ret
  exact ⟨rfl, K17.out.below⟩
end Go.Proofs.Ytddejcoagcaidaa
