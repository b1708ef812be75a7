/- act checks. Conditions stand in each theorem. -/
import Derived.Test.YtmnlkejhhdbhlaaAE
import Derived.Deep.CutBlock
import Derived.Deep.RegionHeld3
namespace Go.Proofs.Ytmnlkejhhdbhlaa
open Go.RowKit
set_option linter.unusedVariables false
set_option maxHeartbeats 8000000
set_option maxRecDepth 100000
section
variable {W : World} {base b d cap : Nat} {m : Mm} {S : Nat → Prop} {A1 A2 : Option Addr} {n1 c1 n2 c2 : Nat}
theorem act_check (hm : Mem W base b d cap m) (hG : Gm m) (hcnt : m.L.length ≤ 1000) (hr : Rf W S A1 n1 c1 A2 n2 c2 m) (hSb : S b) (hSd : S d) (hSlt : ∀ k, S k → k < W.heap.size) (n : Int) (ad : Nat) (vb xv : Value) (hn : n < 9223372036854775808) (had : ad < 18446744073709551616) :
    Calls Try.prog 14 #[.pointer (some ⟨b, 0, none⟩), .agg #[.slice A1 n1 c1, .slice A2 n2 c2], .agg #[.int .i64 6, .int .i64 n, .int .u64 (ad : Int), vb, xv]] W (AcP W base b d S m) := by
  obtain ⟨ha3, hbE, hsE⟩ := aE_facts W (.slice A1 n1 c1) (.slice A2 n2 c2) #[.int .i64 6, .int .i64 n, .int .u64 (ad : Int), vb, xv]
  have HWE : Hid (aE W (.slice A1 n1 c1) (.slice A2 n2 c2) #[.int .i64 6, .int .i64 n, .int .u64 (ad : Int), vb, xv] = ((W.alloc (.cells #[.slice A1 n1 c1, .slice A2 n2 c2] 32)).alloc (.cells #[.int .i64 6, .int .i64 n, .int .u64 (ad : Int), vb, xv] 40)).alloc (.cells #[.slice none 0 0, .slice none 0 0] 32)) := Lib.hid rfl
  obtain ⟨E, hE⟩ : ∃ E, E = aE W (.slice A1 n1 c1) (.slice A2 n2 c2) #[.int .i64 6, .int .i64 n, .int .u64 (ad : Int), vb, xv] := ⟨_, rfl⟩
  rw [← hE] at ha3 hbE hsE HWE
  clear hE
  have HBE := Lib.hid hbE
  have HA3 := Lib.hid ha3
  have HSS := Lib.hid (show S b ∧ S d ∧ (∀ k, S k → k < W.heap.size) ∧ E.heap.size = W.heap.size + 3 from ⟨hSb, hSd, hSlt, hsE⟩)
  have HLT := Lib.hid (show b < W.heap.size ∧ d < W.heap.size from ⟨hm.lt, hm.dlt⟩)
  have hT : Rf E (fun k => S k ∨ W.heap.size ≤ k ∧ k < W.heap.size + 3) A1 n1 c1 A2 n2 c2 m := (hr.or (hr.newer (T := fun k => W.heap.size ≤ k ∧ k < W.heap.size + 3) (fun k hk => hk.1))).below hbE
  have hmE := hm.below hbE
  have s5 := ha3.c40
  have t5 := ha3.c41
  obtain ⟨y0, y1, y2, y3, y4⟩ := ha3.c5
  obtain ⟨z0, z1, z2⟩ := ha3.c7
  have HHC := Lib.hid (fun X (h : Below E.heap.size E X) => Check_any (hmE.below h) hG ad n had hn)
  have HRC := Lib.hid (fun X (h : Below E.heap.size E X) => rCheck_any (hT.below h) hG.max ad n had hn)
  have HX : Hid (∀ X, Below E.heap.size E X → A3 W.heap.size (.slice A1 n1 c1) (.slice A2 n2 c2) #[.int .i64 6, .int .i64 n, .int .u64 (ad : Int), vb, xv] X) := Lib.hid fun X h => ha3.below h
  have HMM := Lib.hid hmE
  have HRR := Lib.hid hT
  clear hm hG hcnt hr hSb hSd hSlt hn had ha3 hbE hsE hT hmE
  go_enter Try.func14, Try.ntmps14
  go_upto_region 1 with fail
  rw [← HWE.out]
  go_upto_region 30 with fail
  have HBD := Lib.hid (Below.refl E.heap.size E).drew
  clear HA3
  go_region_held3 (fun w' => w'.cell? ⟨W.heap.size, 0, none⟩ = some (.slice A1 n1 c1) ∧ w'.cell? ⟨W.heap.size, 1, none⟩ = some (.slice A2 n2 c2) ∧ w'.cell? ⟨W.heap.size + 1, 2, none⟩ = some (.int .u64 (ad : Int)) ∧ w'.cell? ⟨W.heap.size + 1, 1, none⟩ = some (.int .i64 n)) (first | (refine ⟨?_, ?_, ?_, ?_⟩ <;> assumption) | (refine ⟨?_, ?_, ?_, ?_⟩ <;> exact cell_put2 (by assumption) (by omega))) (first
    | ((go_at_call 23; with_reducible refine (HHC.out _ HBD.out).mono ?_); rintro e w3 ⟨rfl, hb3⟩; have hb := HBD.out.trans (hb3.mono HBD.out.size); clear HBD; have HBD := Lib.hid hb; have ha3 := HX.out _ hb; obtain ⟨g5, g6, g7⟩ := ha3.c7; have v0 := ha3.c40; have v1 := ha3.c41; obtain ⟨o0, o1, o2, o3, o4⟩ := ha3.c5; clear hb3 hb ha3)
    | ((go_at_call 31; with_reducible refine (HRC.out _ HBD.out).mono ?_); rintro e w4 ⟨rfl, hb3⟩; have hb := HBD.out.trans (hb3.mono HBD.out.size); clear HBD; have HBD := Lib.hid hb; have ha3 := HX.out _ hb; obtain ⟨g5, g6, g7⟩ := ha3.c7; have v0 := ha3.c40; have v1 := ha3.c41; obtain ⟨o0, o1, o2, o3, o4⟩ := ha3.c5; clear hb3 hb ha3)
    | ((go_at_call 13; with_reducible refine (num_any _ _).mono ?_); rintro e w' ⟨rfl, rfl⟩))
  all_goals
    go_wp2
    refine bodyPost_ret (results_mid rfl _ _ (W.heap.size + 2) 32 #[.slice A1 n1 c1, .slice A2 n2 c2] (0, 0) _ rfl (set2 _ _ _ _ _ _ _ (HX.out _ HBD.out).a7) Try.underlying32 rfl info32) rfl ?_
    exact ac_end (HMM.out.below HBD.out) (HRR.out.below HBD.out) ((Chg.of_below HBE.out).then_below HBD.out) HLT.out HSS.out.1 HSS.out.2.1 _ (put2 (S := fun q => q = W.heap.size + 1 + 1) (Chg.refl _ _) rfl _ _)
end
end Go.Proofs.Ytmnlkejhhdbhlaa
