/- act clears. Conditions stand in each theorem. -/
import Derived.Test.YtmnlkejhhdbhlaaAE
import Derived.Deep.CutBlock
import Derived.Deep.RegionHeld3
namespace Go.Proofs.Ytmnlkejhhdbhlaa
open Go.RowKit
set_option linter.unusedVariables false
set_option maxHeartbeats 8000000
set_option maxRecDepth 100000
section
variable {W : World} {base b d cap : Nat} {m : Mm} {S : Nat → Prop} {A1 A2 : Option Addr} {n1 c1 n2 c2 : Nat}
theorem act_clear (hm : Mem W base b d cap m) (hG : Gm m) (hcnt : m.L.length ≤ 1000) (hr : Rf W S A1 n1 c1 A2 n2 c2 m) (hSb : S b) (hSd : S d) (hSlt : ∀ k, S k → k < W.heap.size) (n : Int) (ad : Nat) (vb xv : Value) (hn : n < 9223372036854775808) (had : ad < 18446744073709551616) :
    Calls Try.prog 14 #[.pointer (some ⟨b, 0, none⟩), .agg #[.slice A1 n1 c1, .slice A2 n2 c2], .agg #[.int .i64 5, .int .i64 n, .int .u64 (ad : Int), vb, xv]] W (AcP W base b d S { m with L := [] }) := by
  obtain ⟨ha3, hbE, hsE⟩ := aE_facts W (.slice A1 n1 c1) (.slice A2 n2 c2) #[.int .i64 5, .int .i64 n, .int .u64 (ad : Int), vb, xv]
  have HWE : Hid (aE W (.slice A1 n1 c1) (.slice A2 n2 c2) #[.int .i64 5, .int .i64 n, .int .u64 (ad : Int), vb, xv] = ((W.alloc (.cells #[.slice A1 n1 c1, .slice A2 n2 c2] 32)).alloc (.cells #[.int .i64 5, .int .i64 n, .int .u64 (ad : Int), vb, xv] 40)).alloc (.cells #[.slice none 0 0, .slice none 0 0] 32)) := Lib.hid rfl
  obtain ⟨E, hE⟩ : ∃ E, E = aE W (.slice A1 n1 c1) (.slice A2 n2 c2) #[.int .i64 5, .int .i64 n, .int .u64 (ad : Int), vb, xv] := ⟨_, rfl⟩
  rw [← hE] at ha3 hbE hsE HWE
  clear hE
  have HBE := Lib.hid hbE
  have HA3 := Lib.hid ha3
  have HSS := Lib.hid (show S b ∧ S d ∧ (∀ k, S k → k < W.heap.size) ∧ E.heap.size = W.heap.size + 3 from ⟨hSb, hSd, hSlt, hsE⟩)
  have HLT := Lib.hid (show b < W.heap.size ∧ d < W.heap.size from ⟨hm.lt, hm.dlt⟩)
  have hT : Rf E (fun k => S k ∨ W.heap.size ≤ k ∧ k < W.heap.size + 3) A1 n1 c1 A2 n2 c2 m := (hr.or (hr.newer (T := fun k => W.heap.size ≤ k ∧ k < W.heap.size + 3) (fun k hk => hk.1))).below hbE
  have hmE := hm.below hbE
  have s5 := ha3.c40
  have t5 := ha3.c41
  obtain ⟨y0, y1, y2, y3, y4⟩ := ha3.c5
  obtain ⟨z0, z1, z2⟩ := ha3.c7
  have hcs : Chg (fun k => k = W.heap.size) E (E.setCell ⟨W.heap.size, 1, none⟩ (.slice none 0 0)) := (Chg.refl (fun k => k = W.heap.size) E).setCell (p := ⟨W.heap.size, 1, none⟩) rfl _
  have hst : A3 W.heap.size (.slice A1 n1 c1) (.slice none 0 0) #[.int .i64 5, .int .i64 n, .int .u64 (ad : Int), vb, xv] (E.setCell ⟨W.heap.size, 1, none⟩ (.slice none 0 0)) := by
    have h7 := ha3.a7
    have h4 := ha3.a4
    have h5 := ha3.a5
    have key := fun k (h1 : k < E.heap.size) (h2 : k ≠ W.heap.size) => hcs.block k h1 h2
    exact ⟨heap_setCell_same E W.heap.size 1 _ 32 _ h4, (key _ (by omega) (by omega)).trans h5, (key _ (by omega) (by omega)).trans h7⟩
  have f4 : E.frozen? ⟨W.heap.size, 1, none⟩ = false := frozen_of_row E W.heap.size 1 _ 32 ha3.a4
  have hm1 := hmE.chg hcs (by have := hm.lt; omega) (by have := hm.dlt; omega)
  have HCW : Hid (Chg (fun k => k = b ∨ k = d) W (E.setCell ⟨W.heap.size, 1, none⟩ (.slice none 0 0))) := Lib.hid ((Chg.of_below hbE).trans hcs fun k hk h => by have hk : k = W.heap.size := hk; omega)
  have HR1 : Hid (Rf (E.setCell ⟨W.heap.size, 1, none⟩ (.slice none 0 0)) (fun k => S k ∨ W.heap.size ≤ k ∧ k < W.heap.size + 3) A1 n1 c1 none 0 0 { m with L := [] }) := Lib.hid (by
    have h := hT.chg (hcs.mono fun k hk => .inr (by have hk : k = W.heap.size := hk; omega))
    exact ⟨h.B, h.oB, Spn.nil _, fun h0 => absurd h0 (by omega)⟩)
  have HHF := Lib.hid (Clear_any (hm1.chg (Chg.refl (fun _ => False) _).drew (fun h => h) (fun h => h)) hG.pos)
  have HW1 : Hid (∀ X, Chg (· = b) (E.setCell ⟨W.heap.size, 1, none⟩ (.slice none 0 0)) X → A3 W.heap.size (.slice A1 n1 c1) (.slice none 0 0) #[.int .i64 5, .int .i64 n, .int .u64 (ad : Int), vb, xv] X) := Lib.hid fun X hc => hst.chg hc fun k hk => by have := HLT.out; have hk : k = b := hk; omega
  have i4 := hst.c40
  have j4 := hst.c41
  obtain ⟨a5, a6, a7⟩ := hst.c7
  clear hm hG hcnt hr hSb hSd hSlt hn had ha3 hbE hsE hT hmE hst hcs hm1
  go_enter Try.func14, Try.ntmps14
  go_upto_region 1 with fail
  rw [← HWE.out]
  go_upto_region 28 with fail
  generalize E.setCell ⟨W.heap.size, 1, none⟩ (.slice none 0 0) = w2 at *
  clear y0 y1 y2 y3 y4 s5 t5 z0 z1 z2 f4
  go_region_with (first
    | ((go_at_call 19; with_reducible refine HHF.out.mono ?_); rintro e w3 ⟨rfl, hm3, hc3⟩; have hc3 := (Chg.refl (fun k => k = b) w2).drew.also hc3; have HM3 := Lib.hid hm3; have HC3 := Lib.hid hc3; have ha3 := HW1.out w3 hc3; have HA33 := Lib.hid ha3; obtain ⟨g5, g6, g7⟩ := ha3.c7; have v0 := ha3.c40; have v1 := ha3.c41; clear hm3 hc3 ha3)
    | ((go_at_call 13; with_reducible refine (num_any _ _).mono ?_); rintro e w' ⟨rfl, rfl⟩))
  all_goals
    go_wp2
    refine bodyPost_ret (results_mid rfl _ _ (W.heap.size + 2) 32 #[.slice A1 n1 c1, .slice none 0 0] (0, 0) _ rfl (set2 _ _ _ _ _ _ _ HA33.out.a7) Try.underlying32 rfl info32) rfl ?_
    have hcw : Chg (fun k => k = b ∨ k = d) W w3 := HCW.out.also (HC3.out.mono fun k hk => .inl hk)
    have hrw : Rf w3 (fun k => S k ∨ W.heap.size ≤ k ∧ k < W.heap.size + 3) A1 n1 c1 none 0 0 { m with L := [] } := HR1.out.chg (HC3.out.mono fun k hk => .inl (by have hk : k = b := hk; exact hk ▸ HSS.out.1))
    exact ac_end HM3.out hrw hcw HLT.out HSS.out.1 HSS.out.2.1 _ (put2 (S := fun q => q = W.heap.size + 1 + 1) (Chg.refl _ _) rfl _ _)
end
end Go.Proofs.Ytmnlkejhhdbhlaa
