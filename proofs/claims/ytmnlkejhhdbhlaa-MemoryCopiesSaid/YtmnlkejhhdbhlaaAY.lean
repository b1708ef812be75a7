/- act copies. Conditions stand in each theorem. -/
import Derived.Test.YtmnlkejhhdbhlaaAE
import Derived.Deep.CutBlock
import Derived.Deep.RegionHeld3
namespace Go.Proofs.Ytmnlkejhhdbhlaa
open Go.RowKit
set_option linter.unusedVariables false
set_option maxHeartbeats 8000000
set_option maxRecDepth 100000
section
variable {W : World} {base b d cap : Nat} {m : Mm} {S : Nat → Prop} {A1 A2 : Option Addr} {n1 c1 n2 c2 : Nat}
theorem act_copy (hm : Mem W base b d cap m) (hG : Gm m) (hcnt : m.L.length ≤ 1000) (hr : Rf W S A1 n1 c1 A2 n2 c2 m) (hSb : S b) (hSd : S d) (hSlt : ∀ k, S k → k < W.heap.size) (n : Int) (ad : Nat) (vb xv : Value) (hn : n < 9223372036854775808) (had : ad < 18446744073709551616) (wh : Int) (hw : wh ≠ 0 ∧ wh ≠ 1 ∧ wh ≠ 2 ∧ wh ≠ 3 ∧ wh ≠ 4 ∧ wh ≠ 5 ∧ wh ≠ 6) (hbase : base ≤ W.heap.size) :
    Calls Try.prog 14 #[.pointer (some ⟨b, 0, none⟩), .agg #[.slice A1 n1 c1, .slice A2 n2 c2], .agg #[.int .i64 wh, .int .i64 n, .int .u64 (ad : Int), vb, xv]] W (AcP W base b d S m) := by
  obtain ⟨ha3, hbE, hsE⟩ := aE_facts W (.slice A1 n1 c1) (.slice A2 n2 c2) #[.int .i64 wh, .int .i64 n, .int .u64 (ad : Int), vb, xv]
  have HWE : Hid (aE W (.slice A1 n1 c1) (.slice A2 n2 c2) #[.int .i64 wh, .int .i64 n, .int .u64 (ad : Int), vb, xv] = ((W.alloc (.cells #[.slice A1 n1 c1, .slice A2 n2 c2] 32)).alloc (.cells #[.int .i64 wh, .int .i64 n, .int .u64 (ad : Int), vb, xv] 40)).alloc (.cells #[.slice none 0 0, .slice none 0 0] 32)) := Lib.hid rfl
  obtain ⟨E, hE⟩ : ∃ E, E = aE W (.slice A1 n1 c1) (.slice A2 n2 c2) #[.int .i64 wh, .int .i64 n, .int .u64 (ad : Int), vb, xv] := ⟨_, rfl⟩
  rw [← hE] at ha3 hbE hsE HWE
  clear hE
  have HBE := Lib.hid hbE
  have HA3 := Lib.hid ha3
  have HSS := Lib.hid (show S b ∧ S d ∧ (∀ k, S k → k < W.heap.size) ∧ E.heap.size = W.heap.size + 3 from ⟨hSb, hSd, hSlt, hsE⟩)
  have HLT := Lib.hid (show b < W.heap.size ∧ d < W.heap.size from ⟨hm.lt, hm.dlt⟩)
  have hT : Rf E (fun k => S k ∨ W.heap.size ≤ k ∧ k < W.heap.size + 3) A1 n1 c1 A2 n2 c2 m := (hr.or (hr.newer (T := fun k => W.heap.size ≤ k ∧ k < W.heap.size + 3) (fun k hk => hk.1))).below hbE
  have hmE := hm.below hbE
  have s5 := ha3.c40
  have t5 := ha3.c41
  obtain ⟨y0, y1, y2, y3, y4⟩ := ha3.c5
  obtain ⟨z0, z1, z2⟩ := ha3.c7
  obtain ⟨i0, i1, i2, i3, i4, i5, i6⟩ := hw
  have d0 : (wh == 0) = false := by simp [i0]
  have d1 : (wh == 1) = false := by simp [i1]
  have d2 : (wh == 2) = false := by simp [i2]
  have d3 : (wh == 3) = false := by simp [i3]
  have d4 : (wh == 4) = false := by simp [i4]
  have d5 : (wh == 5) = false := by simp [i5]
  have d6 : (wh == 6) = false := by simp [i6]
  have HHC := Lib.hid (Copy_any (hmE.below (Below.refl E.heap.size E).drew) hG)
  have HX : Hid (∀ X, Below E.heap.size E X → A3 W.heap.size (.slice A1 n1 c1) (.slice A2 n2 c2) #[.int .i64 wh, .int .i64 n, .int .u64 (ad : Int), vb, xv] X) := Lib.hid fun X h => ha3.below h
  have HRR := Lib.hid hr
  have HBS := Lib.hid hbase
  clear hm hG hcnt hr hSb hSd hSlt hn had ha3 hbE hsE hT hmE hbase
  go_enter Try.func14, Try.ntmps14
  go_upto_region 1 with fail
  rw [← HWE.out]
  go_upto_region 31 with fail
  clear HA3
  go_region_with ((go_at_call 20; with_reducible refine HHC.out.mono ?_); rintro e w3 ⟨b', d', cap', rfl, hm3, hb3⟩; have hb3 : Below E.heap.size E w3 := (Below.refl E.heap.size E).drew.trans hb3; have hm3 : Mem w3 E.heap.size b' d' cap' m := hm3; have HM3 := Lib.hid hm3; have HBD := Lib.hid hb3; have ha3 := HX.out _ hb3; obtain ⟨g5, g6, g7⟩ := ha3.c7; have v0 := ha3.c40; have v1 := ha3.c41; clear hm3 hb3 ha3)
  all_goals
    go_wp2
    refine bodyPost_ret (results_mid rfl _ _ (W.heap.size + 2) 32 #[.slice A1 n1 c1, .slice A2 n2 c2] (0, 0) _ rfl (set2 _ _ _ _ _ _ _ (HX.out _ HBD.out).a7) Try.underlying32 rfl info32) rfl ?_
    have hss := HSS.out
    have hb := HBE.out.trans (HBD.out.mono HBE.out.size)
    have hrw : Rf w3 (fun k => S k ∨ W.heap.size ≤ k) A1 n1 c1 A2 n2 c2 m := (HRR.out.or (HRR.out.newer (T := fun k => W.heap.size ≤ k) fun k hk => hk)).below hb
    exact ac_new HBS.out (HM3.out.rebase (by omega)) (by have h1 := HM3.out.hb; have h2 := HM3.out.row.1; omega) hrw hb _ (put2 (S := fun q => q = W.heap.size + 1 + 1) (Chg.refl _ _) rfl _ _)
end
end Go.Proofs.Ytmnlkejhhdbhlaa
